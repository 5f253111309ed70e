/- RfA, RfB, RfC, RfD, RfE, RfF, RfG, RfH, DkLate, RsKit. -/
import Derived.Test.YtiljhjegfklgmaaDkX
import Derived.OwnWalk
import Derived.Deep.MidRow
import Derived.Great.BuildSlice
import Derived.Deep.WholeRow
/- The reference's disk: how it lies; an op of it; the copy of a row. -/
namespace Go.Proofs.Ytiljhjegfklgmaa
open Go.RowKit

theorem keeps_cell4 {S : List Nat} {w w' : World} (k : Keeps S w w') {a : Addr} {v : Value} (h : w.cell? a = some v) (hs : a.block ∉ S) : w'.cell? a = some v := by
  rw [World.cell?_of_block (w := w) (k.block _ (World.block_lt_of_cell? _ _ h) hs)]
  exact h
theorem row_one4 {w : World} (z : Int) (T : TypeId) (hz : 0 ≤ z ∧ z ≤ 255) : RowAt (w.alloc (.cells #[.int .u8 z] T)) (.slice (some ⟨w.heap.size, 0, none⟩) 1 1) [z] := by
  refine ⟨some ⟨w.heap.size, 0, none⟩, 1, rfl, by simp, by unfold maxLen; omega, by simp, by simpa using hz, fun ad had j u hu => ?_⟩
  obtain rfl := Option.some.inj had
  rw [Addr.add_mid, Nat.zero_add, cell_of_row _ _ j _ _ (0, 0) (heap_alloc_new w _)]
  simpa using hu

/-- A row of the call's own, in new memory. -/
def OwnPost4 (w : World) (zs : List Int) (e : Ending) (w' : World) : Prop :=
  ∃ a c, e = .returned (.slice a zs.length c) ∧ w'.ownsRow w.heap.size 5 1 (.slice a zs.length c) zs.length (zs.map (Value.int .u8)) ∧ Keeps [] w w'

set_option maxHeartbeats 800000 in
theorem copy4_any (w : World) (v : Value) (zs : List Int) (h : RowAt w v zs) (hl : zs.length ≤ 35184372088832) :
    Calls Try.prog 24 #[v] w (OwnPost4 w zs) := by
  have HR := hid h
  obtain ⟨a, cap, rfl, z⟩ := h
  clear z
  obtain ⟨i0, hi, hz0, hz1, hz2⟩ := info_parts info5
  go_enter Try.func24, Try.ntmps24
  go_wp2_with fail
  go_loopw [3, 4] (fun b i wr => ∃ (k : Nat) (a' : Option Addr) (c : Nat), k ≤ zs.length ∧ i = .int .i64 k ∧ b = .slice a' k c ∧
      wr.ownsRow w.heap.size 5 1 (.slice a' k c) k ((zs.take k).map (Value.int .u8)) ∧ Keeps [] w wr) (fun _ i _ => zs.length - (intOf i).toNat)
  case atStart => exact ⟨0, none, 0, by omega, rfl, rfl, World.ownsRow_nil _ _ _ _, Keeps.refl _ _⟩
  case round =>
    obtain ⟨k, a', c, hk, rfl, rfl, q1, q2⟩ := hrel
    have Q1 := hid q1
    have Q2 := hid q2
    clear q1 q2
    by_cases hlt : k < zs.length
    · obtain ⟨g, off, cp, e1, _, hc⟩ := HR.out.open (by omega)
      injection e1 with e1 e2 e3
      subst e1
      have hck : wr.cell? ⟨g, off + k, none⟩ = some (.int .u8 (zs.getD k 0)) := keeps_cell4 Q2.out (hc k hlt) (by simp)
      have hz : 0 ≤ zs.getD k 0 ∧ zs.getD k 0 ≤ 255 := HR.out.bytes _ (by rw [List.getD_eq_getElem?_getD, List.getElem?_eq_getElem hlt]; exact List.getElem_mem _)
      have HE := hid (take_snoc zs k hlt)
      clear hc e2 e3
      generalize zs.getD k 0 = b at *
      have HO := hid (Q1.out.alloc (.cells #[.int .u8 b] 5))
      have HR1 := hid (row_one4 (w := wr) b 5 hz)
      have hsz : w.heap.size ≤ wr.heap.size := Q2.out.size
      clear hz
      go_wp2_with (at_builtin; refine wpList_append_row rfl _ _ 31 rfl w.heap.size 5 i0 (.int .u8 0) Try.underlying31 hi hz0 hz1 hz2 rfl (.slice a' k c) k ((zs.take k).map (Value.int .u8)) rfl HO.out _ [b] rfl HR1.out (by rw [List.length_singleton]; omega) (by rw [World.size_alloc]; omega) ?_; intro a2 c2 w1 k1 k2 k3; simp only [List.length_singleton] at k1 k3 ⊢)
      go_roundw
      case rel =>
        refine ⟨k + 1, a2, c2, by omega, by go_num, rfl, ?_, ?_⟩
        · rw [HE.out, List.map_append]
          exact k1.out
        · exact (Q2.out.alloc _).grown k2.out (fun j hj => Or.inr ((Q1.out.lt j (by simpa [Value.ownBlock] using hj)).1))
      case measure => simp [intOf]; omega
    · have : k = zs.length := by omega
      subst this
      go_wp2_with fail
      go_ret
      refine ⟨a', c, rfl, ?_, Q2.out⟩
      have := Q1.out
      rw [List.take_length] at this
      exact this

/-- A row of rows: the outer row is its own, the inner rows are only read. -/
structure RowsOwn (w : World) (v : Value) (us : List Value) (rs : List (List Int)) : Prop where
  own : w.ownsRow 0 31 1 v us.length us
  len : us.length = rs.length
  rows : ∀ i (h : i < us.length), RowAt w us[i] (rs.getD i [])

/-- What the reference's disk holds: its rows of rows, by the place of their field; its numbers. -/
structure RSt where
  rf : Nat → List (List Int)
  ats : List Int
  ops : Int
  fuse : Int
  dead : Bool
def rcells (vf : Nat → Value) (s : RSt) : Array Value := #[vf 0, vf 1, vf 2, vf 3, .int .i64 s.ops, .int .i64 s.fuse, .bool s.dead]
def rsOf (s : DS) (i : Nat) : List (List Int) := if i = 0 then (List.range s.cnt).map fun i => (s.now i).1 else if i = 1 then (List.range s.cnt).map fun i => (s.las i).1 else s.loose.map fun x => x.2.1

/-- A disk's state as the reference holds it. -/
def DS.ref (s : DS) : RSt := ⟨rsOf s, s.loose.map fun x => (x.1 : Int), s.ops, s.fuse, s.dead⟩

/-- The reference's disk: vf its four outer rows (Now, Lasts, At, Wrote), uf the inner rows of each. -/
structure RefIn (w : World) (q : Nat) (s : RSt) (vf : Nat → Value) (uf : Nat → List Value) : Prop where
  blk : w.heap[q]? = some (.cells (rcells vf s) 51 (0, 0))
  row : ∀ i, i < 4 → i ≠ 2 → RowsOwn w (vf i) (uf i) (s.rf i)
  at_ : w.ownsRow 0 3 1 (vf 2) s.ats.length (s.ats.map (Value.int .i64))
  u2 : uf 2 = []
  apart : ∀ i j, i < 4 → j < 4 → i ≠ j → ∀ b, (vf i).ownBlock = some b → (vf j).ownBlock ≠ some b
  no : ∀ i, i < 4 → (vf i).ownBlock ≠ some q
  off : ∀ i, i < 4 → ∀ b ∈ (uf i).filterMap Value.ownBlock, b ≠ q ∧ ∀ j, j < 4 → (vf j).ownBlock ≠ some b
  lt : ∀ i, i < 4 → ∀ b ∈ (uf i).filterMap Value.ownBlock, b < w.heap.size

/-- Its blocks. -/
def RB (q : Nat) (vf : Nat → Value) (uf : Nat → List Value) (b : Nat) : Prop := b = q ∨ ∃ i, i < 4 ∧ ((vf i).ownBlock = some b ∨ b ∈ (uf i).filterMap Value.ownBlock)
def rbl (q : Nat) (vf : Nat → Value) (uf : Nat → List Value) : List Nat := q :: (List.range 4).flatMap fun i => (vf i).ownBlock.toList ++ (uf i).filterMap Value.ownBlock
theorem rbl_iff (q : Nat) (vf : Nat → Value) (uf : Nat → List Value) (b : Nat) : b ∈ rbl q vf uf ↔ RB q vf uf b := by
  simp only [rbl, RB, List.mem_cons, List.mem_flatMap, List.mem_range, List.mem_append, Option.mem_toList]

def RefAt (w : World) (q : Nat) (s : DS) (G : List Nat) : Prop := ∃ vf uf, RefIn w q s.ref vf uf ∧ G = rbl q vf uf

section
variable {w w' : World} {q : Nat} {s : RSt} {vf : Nat → Value} {uf : Nat → List Value} {v : Value} {us : List Value} {rs : List (List Int)}

theorem RowsOwn.same (h : RowsOwn w v us rs) (h0 : ∀ b, v.ownBlock = some b → w'.heap[b]? = w.heap[b]?) (h1 : ∀ b ∈ us.filterMap Value.ownBlock, w'.heap[b]? = w.heap[b]?) : RowsOwn w' v us rs := by
  refine ⟨own_same h.own h0, h.len, fun i hi => ?_⟩
  obtain ⟨a, cap, e, r1, r2, r3, r4, r5⟩ := h.rows i hi
  refine ⟨a, cap, e, r1, r2, r3, r4, fun ad had j u hu => ?_⟩
  have hm : ad.block ∈ us.filterMap Value.ownBlock := List.mem_filterMap.2 ⟨us[i], List.getElem_mem hi, by rw [e, had]; rfl⟩
  rw [World.cell?_of_block (w := w) (a := ad.add j) (by rw [Addr.add_block]; exact h1 ad.block hm)]
  exact r5 ad had j u hu

theorem RefIn.lt' (h : RefIn w q s vf uf) : ∀ b, RB q vf uf b → b < w.heap.size := by
  rintro b (rfl | ⟨i, hi, e | e⟩)
  · exact lt_of_block h.blk
  · by_cases h2 : i = 2
    · subst h2; exact (h.at_.lt b e).2
    · exact ((h.row i hi h2).own.lt b e).2
  · exact h.lt i hi b e

theorem RefIn.same (h : RefIn w q s vf uf) (hs : w.heap.size ≤ w'.heap.size) (hk : ∀ b, RB q vf uf b → w'.heap[b]? = w.heap[b]?) : RefIn w' q s vf uf :=
  ⟨(hk q (.inl rfl)).trans h.blk, fun i hi h2 => (h.row i hi h2).same (fun b e => hk b (.inr ⟨i, hi, .inl e⟩)) (fun b e => hk b (.inr ⟨i, hi, .inr e⟩)),
    own_same h.at_ (fun b e => hk b (.inr ⟨2, by omega, .inl e⟩)), h.u2, h.apart, h.no, h.off, fun i hi b hb => Nat.lt_of_lt_of_le (h.lt i hi b hb) hs⟩

theorem RefIn.keep {S : List Nat} (h : RefIn w q s vf uf) (k : Keeps S w w') (hS : ∀ b ∈ S, ¬ RB q vf uf b) : RefIn w' q s vf uf :=
  h.same k.size fun b hb => k.block b (h.lt' b hb) (fun hm => hS b hm hb)

theorem RefAt.keep {s : DS} {G S : List Nat} (h : RefAt w q s G) (k : Keeps S w w') (hS : ∀ b ∈ G, b ∉ S) : RefAt w' q s G := by
  obtain ⟨vf, uf, hi, rfl⟩ := h
  exact ⟨vf, uf, hi.keep k (fun b hb hm => hS b ((rbl_iff _ _ _ _).2 hm) hb), rfl⟩
theorem RefAt.lt {s : DS} {G : List Nat} (h : RefAt w q s G) : ∀ b ∈ G, b < w.heap.size := by
  obtain ⟨vf, uf, hi, rfl⟩ := h
  exact fun b hb => hi.lt' b ((rbl_iff _ _ _ _).1 hb)

theorem RefIn.c0 (h : RefIn w q s vf uf) : w.cell? ⟨q, 0, none⟩ = some (vf 0) := by simp [World.cell?, h.blk, rcells]
theorem RefIn.c1 (h : RefIn w q s vf uf) : w.cell? ⟨q, 1, none⟩ = some (vf 1) := by simp [World.cell?, h.blk, rcells]
theorem RefIn.c2 (h : RefIn w q s vf uf) : w.cell? ⟨q, 2, none⟩ = some (vf 2) := by simp [World.cell?, h.blk, rcells]
theorem RefIn.c3 (h : RefIn w q s vf uf) : w.cell? ⟨q, 3, none⟩ = some (vf 3) := by simp [World.cell?, h.blk, rcells]
theorem RefIn.c4 (h : RefIn w q s vf uf) : w.cell? ⟨q, 4, none⟩ = some (.int .i64 s.ops) := by simp [World.cell?, h.blk, rcells]
theorem RefIn.c5 (h : RefIn w q s vf uf) : w.cell? ⟨q, 5, none⟩ = some (.int .i64 s.fuse) := by simp [World.cell?, h.blk, rcells]
theorem RefIn.c6 (h : RefIn w q s vf uf) : w.cell? ⟨q, 6, none⟩ = some (.bool s.dead) := by simp [World.cell?, h.blk, rcells]
theorem RefIn.fr (h : RefIn w q s vf uf) (i : Nat) : w.frozen? ⟨q, i, none⟩ = false := by simp [World.frozen?, h.blk]
theorem RefIn.now {s : DS} (h : RefIn w q s.ref vf uf) : RowsOwn w (vf 0) (uf 0) ((List.range s.cnt).map fun i => (s.now i).1) := h.row 0 (by omega) (by omega)
theorem RefIn.las {s : DS} (h : RefIn w q s.ref vf uf) : RowsOwn w (vf 1) (uf 1) ((List.range s.cnt).map fun i => (s.las i).1) := h.row 1 (by omega) (by omega)
theorem RefIn.wrote {s : DS} (h : RefIn w q s.ref vf uf) : RowsOwn w (vf 3) (uf 3) (s.loose.map fun x => x.2.1) := h.row 3 (by omega) (by omega)

/-- What is not its struct lies as it was when a cell of the struct is written. -/
theorem RefIn.notq (h : RefIn w q s vf uf) (i : Nat) (hi : i < 4) (b : Nat) (e : (vf i).ownBlock = some b ∨ b ∈ (uf i).filterMap Value.ownBlock) : b ≠ q := by
  rcases e with e | e
  · rintro rfl; exact h.no i hi e
  · exact (h.off i hi b e).1

/-- One of its own numbers is written. -/
theorem RefIn.set {s' : RSt} (h : RefIn w q s vf uf) (i : Nat) (v : Value) (hv : (rcells vf s).setIfInBounds i v = rcells vf s') (h1 : s'.rf = s.rf) (h4 : s'.ats = s.ats) :
    RefIn (w.setCell ⟨q, i, none⟩ v) q s' vf uf := by
  have hk : ∀ b, b ≠ q → (w.setCell ⟨q, i, none⟩ v).heap[b]? = w.heap[b]? := fun b hb => Below.heap_setCell _ _ _ _ hb
  refine ⟨by rw [heap_setCell_same w q i _ _ v h.blk, hv], fun j hj h2' => ?_, ?_, h.u2, h.apart, h.no, h.off, fun j hj b hb => by have := h.lt j hj b hb; simpa [World.setCell] using this⟩
  · rw [h1]
    exact (h.row j hj h2').same (fun b e => hk b (h.notq j hj b (.inl e))) (fun b e => hk b (h.notq j hj b (.inr e)))
  · rw [h4]
    exact own_same h.at_ (fun b e => hk b (h.notq 2 (by omega) b (.inl e)))

/-- An outer row's place taken by another row: w' is w but for the old outer row's block; then the struct's cell is written. -/
theorem RefIn.put {s' : RSt} (h : RefIn w q s vf uf) (f : Nat) (hf : f < 4) (v : Value) (us : List Value) (hsz : w.heap.size ≤ w'.heap.size)
    (hk : ∀ k, k < w.heap.size → (vf f).ownBlock ≠ some k → w'.heap[k]? = w.heap[k]?) (hb : ∀ b, v.ownBlock = some b → (vf f).ownBlock = some b ∨ w.heap.size ≤ b)
    (hu : ∀ b ∈ us.filterMap Value.ownBlock, b ≠ q ∧ (∀ j, j < 4 → j ≠ f → (vf j).ownBlock ≠ some b) ∧ v.ownBlock ≠ some b ∧ b < w'.heap.size)
    (hrow : f ≠ 2 → RowsOwn w' v us (s'.rf f)) (hat : f = 2 → us = [] ∧ w'.ownsRow 0 3 1 v s'.ats.length (s'.ats.map (Value.int .i64)))
    (hoth : ∀ i, i < 4 → i ≠ f → i ≠ 2 → s'.rf i = s.rf i) (hl2 : f ≠ 2 → s'.ats = s.ats) (hn : s'.ops = s.ops ∧ s'.fuse = s.fuse ∧ s'.dead = s.dead) :
    RefIn (w'.setCell ⟨q, f, none⟩ v) q s' (upd vf f v) (upd uf f us) := by
  have hq := lt_of_block h.blk
  have hq' : w'.heap[q]? = some (.cells (rcells vf s) 51 (0, 0)) := (hk q hq (h.no f hf)).trans h.blk
  have hvq : v.ownBlock ≠ some q := fun e => (hb q e).elim (h.no f hf) (fun h => by omega)
  have hset : ∀ b, b ≠ q → (w'.setCell ⟨q, f, none⟩ v).heap[b]? = w'.heap[b]? := fun b hb => Below.heap_setCell _ _ _ _ hb
  have hold : ∀ i, i < 4 → i ≠ f → ∀ b, (vf i).ownBlock = some b ∨ b ∈ (uf i).filterMap Value.ownBlock → (w'.setCell ⟨q, f, none⟩ v).heap[b]? = w.heap[b]? := fun i hi hif b e => by
    rw [hset b (h.notq i hi b e)]
    refine hk b (h.lt' b (.inr ⟨i, hi, e⟩)) ?_
    rcases e with e | e
    · exact h.apart i f hi hf hif b e
    · exact (h.off i hi b e).2 f hf
  refine ⟨?_, fun i hi h2 => ?_, ?_, ?_, fun i j hi hj hij b e => ?_, fun i hi => ?_, fun i hi b hb' => ?_, fun i hi b hb' => ?_⟩
  · rw [heap_setCell_same w' q f _ _ v hq']
    congr 2
    have : f = 0 ∨ f = 1 ∨ f = 2 ∨ f = 3 := by omega
    rcases this with rfl | rfl | rfl | rfl <;> simp [rcells, upd, hn.1, hn.2.1, hn.2.2]
  · by_cases e : i = f
    · subst e
      rw [upd_same, upd_same]
      exact (hrow h2).same (fun b e => hset b (fun e2 => hvq (e2 ▸ e))) (fun b e => hset b (hu b e).1)
    · rw [upd_ne _ _ e, upd_ne _ _ e, hoth i hi e h2]
      exact (h.row i hi h2).same (fun b e2 => hold i hi e b (.inl e2)) (fun b e2 => hold i hi e b (.inr e2))
  · by_cases e : 2 = f
    · subst e
      rw [upd_same]
      exact own_same (hat rfl).2 (fun b e => hset b (fun e2 => hvq (e2 ▸ e)))
    · rw [upd_ne _ _ e, hl2 (fun e2 => e e2.symm)]
      exact own_same h.at_ (fun b e2 => hold 2 (by omega) e b (.inl e2))
  · by_cases e : 2 = f
    · subst e
      rw [upd_same]
      exact (hat rfl).1
    · rw [upd_ne _ _ e]
      exact h.u2
  · by_cases e1 : i = f
    · subst e1
      have hji : j ≠ i := fun e => hij e.symm
      rw [upd_same] at e
      rw [upd_ne _ _ hji]
      intro e2
      rcases hb b e with h3 | h3
      · exact h.apart j i hj hi hji b e2 h3
      · have := h.lt' b (.inr ⟨j, hj, .inl e2⟩); omega
    · rw [upd_ne _ _ e1] at e
      by_cases e3 : j = f
      · subst e3
        rw [upd_same]
        intro e2
        rcases hb b e2 with h3 | h3
        · exact h.apart i j hi hj hij b e h3
        · have := h.lt' b (.inr ⟨i, hi, .inl e⟩); omega
      · rw [upd_ne _ _ e3]
        exact h.apart i j hi hj hij b e
  · by_cases e : i = f
    · subst e; rw [upd_same]; exact hvq
    · rw [upd_ne _ _ e]; exact h.no i hi
  · have hlow : (b ≠ q ∧ ∀ j, j < 4 → j ≠ f → (vf j).ownBlock ≠ some b) ∧ v.ownBlock ≠ some b := by
      by_cases e : i = f
      · subst e
        rw [upd_same] at hb'
        obtain ⟨h2, h3, h4, _⟩ := hu b hb'
        exact ⟨⟨h2, h3⟩, h4⟩
      · rw [upd_ne _ _ e] at hb'
        refine ⟨⟨(h.off i hi b hb').1, fun j hj _ => (h.off i hi b hb').2 j hj⟩, fun e2 => ?_⟩
        rcases hb b e2 with h3 | h3
        · exact (h.off i hi b hb').2 f hf h3
        · have := h.lt i hi b hb'; omega
    refine ⟨hlow.1.1, fun j hj => ?_⟩
    by_cases e : j = f
    · subst e; rw [upd_same]; exact hlow.2
    · rw [upd_ne _ _ e]; exact hlow.1.2 j hj e
  · have : b < w'.heap.size := by
      by_cases e : i = f
      · subst e
        rw [upd_same] at hb'
        exact (hu b hb').2.2.2
      · rw [upd_ne _ _ e] at hb'
        have := h.lt i hi b hb'
        omega
    simpa [World.setCell] using this
end

end Go.Proofs.Ytiljhjegfklgmaa


/- The reference's disk: op, Read. -/
namespace Go.Proofs.Ytiljhjegfklgmaa
open Go.RowKit

theorem rop_any (w : World) (q : Nat) (s : DS) (vf : Nat → Value) (uf : Nat → List Value) (h : RefIn w q s.ref vf uf) (hf : -9223372036854775808 ≤ s.fuse ∧ s.fuse ≤ 9223372036854775807) (ho : 0 ≤ s.ops ∧ s.ops ≤ 4611686018427387904) :
    Calls Try.prog 23 #[.pointer (some ⟨q, 0, none⟩)] w fun e w' =>
      (s.fuse = 0 → e = .returned (.bool true) ∧ RefIn w' q ({ s with dead := true } : DS).ref vf uf) ∧
      (s.fuse ≠ 0 → e = .returned (.bool false) ∧ RefIn w' q s.spent.ref vf uf) ∧ Keeps [q] w w' := by
  have c4 : w.cell? ⟨q, 4, none⟩ = some (.int .i64 s.ops) := h.c4
  have c5 : w.cell? ⟨q, 5, none⟩ = some (.int .i64 s.fuse) := h.c5
  have c6 : w.cell? ⟨q, 6, none⟩ = some (.bool s.dead) := h.c6
  have f4 := h.fr 4
  have f5 := h.fr 5
  have f6 := h.fr 6
  by_cases h0 : s.fuse = 0
  · have t0 : (s.fuse == 0) = true := by simp [h0]
    go_enter Try.func23, Try.ntmps23
    go_wp2_with fail
    go_ret
    exact ⟨fun _ => ⟨rfl, h.set 6 _ (by simp [rcells, DS.ref]) rfl rfl⟩, fun hn => absurd h0 hn, (Keeps.refl _ _).setCell (Or.inl (by simp)) _⟩
  · have t0 : (s.fuse == 0) = false := by simp [h0]
    by_cases hp : 0 < s.fuse
    · go_enter Try.func23, Try.ntmps23
      go_wp2_with fail
      go_ret
      refine ⟨fun hn => absurd hn h0, fun _ => ⟨rfl, ?_⟩, ((Keeps.refl _ _).setCell (Or.inl (by simp)) _).setCell (Or.inl (by simp)) _⟩
      have h1 := h.set (s' := ({ s with fuse := s.fuse - 1 } : DS).ref) 5 (.int .i64 (s.fuse - 1)) (by simp [rcells, DS.ref]) rfl rfl
      exact h1.set (s' := s.spent.ref) 4 (.int .i64 (s.ops + 1)) (by simp [rcells, DS.ref, DS.spent, hp]) rfl rfl
    · have H0 := hid h0
      clear h0
      go_enter Try.func23, Try.ntmps23
      go_wp2_with fail
      go_ret
      refine ⟨fun hn => absurd hn H0.out, fun _ => ⟨rfl, ?_⟩, (Keeps.refl _ _).setCell (Or.inl (by simp)) _⟩
      exact h.set (s' := s.spent.ref) 4 (.int .i64 (s.ops + 1)) (by simp [rcells, DS.ref, DS.spent]; omega) rfl rfl

/-- The outer row, opened. -/
theorem RowsOwn.open {w : World} {v : Value} {us : List Value} {rs : List (List Int)} (h : RowsOwn w v us rs) (hne : 0 < us.length) :
    ∃ g c, v = .slice (some ⟨g, 0, none⟩) us.length c ∧ us.length ≤ c ∧ ∀ i (hi : i < us.length), w.cell? ⟨g, i, none⟩ = some us[i] := by
  have ho := h.own
  rcases h.own.2 with ⟨_, h0⟩ | ⟨g, c, cur, rfl, _, hgg, hnc, _⟩
  · omega
  · refine ⟨g, c, rfl, hnc, fun i hi => ?_⟩
    have := ho.cells (g := g) rfl i us[i] (List.getElem?_eq_getElem hi)
    rwa [Addr.add_mid, Nat.zero_add] at this

end Go.Proofs.Ytiljhjegfklgmaa


/- The reference's disk: Image. -/
namespace Go.Proofs.Ytiljhjegfklgmaa
open Go.RowKit

theorem imageL_succ (f : Nat → Row) (n : Nat) : imageL f (n + 1) = imageL f n ++ (f n).1 := by
  unfold imageL
  rw [List.range_succ, List.flatMap_append]
  simp

end Go.Proofs.Ytiljhjegfklgmaa


/- append of one single cell (a number, a row) onto an own row: where it lies; as an operation. -/
namespace Go.Proofs.Ytiljhjegfklgmaa
open Go.RowKit

theorem run_append_newT {P : Program} (w : World) (B : Nat) (t ty e : TypeId) (i : TypeInfo) (z : Value) (nb : Nat) (ht : P.underlying t = some (.slice e)) (hi : P.info? e = some i) (hz : i.zero = some z)
    (hsize : i.size = 1) (hby : i.bytes = nb) (hnb : nb ≤ 24) (hzs : z.cells.size = 1) (v : Value) (n : Nat) (xs : List Value) (hown : w.ownsRow B e 1 v n xs)
    (a : Addr) (m c : Nat) (news : List Value) (hl : news.length = m) (hnews : ∀ j u, news[j]? = some u → w.cell? (a.add j) = some u) (h1 : ∀ u ∈ news, u.oneCell' = true)
    (hn : n + m ≤ 1000000000) (hbase : B ≤ w.heap.size) :
    ∃ va vc w', (Builtin.append_ #[t, t] ty #[v, .slice (some a) m c]).run P w = .ok (.slice va (n + m) vc) w' ∧ w'.ownsRow B e 1 (.slice va (n + m) vc) (n + m) (xs ++ news) ∧ w.grownBy w' v.ownBlock ∧ NewRow w v (.slice va (n + m) vc) := by
  have hlen : news.length = m * 1 := by omega
  have hmax : n + m ≤ maxLen := by unfold maxLen; omega
  have hbb : (n + m) * nb ≤ 140737488355328 := Nat.le_trans (Nat.mul_le_mul hn hnb) (by omega)
  obtain ⟨v', w', hr, ho, hg, _⟩ := run_append_own (P := P) w B t ty e i z 1 nb ht hi hz hsize hby hzs (by omega) v n xs hown a m c news hlen hnews h1 hmax hbb hbase
  obtain ⟨va, vc, rfl⟩ := ownsRow_slice ho
  refine ⟨va, vc, w', hr, ho, hg, ?_⟩
  rcases hown.2 with ⟨rfl, rfl⟩ | ⟨g, cap, cur, rfl, _, hgg, hnc, _, hcs, htake⟩
  · right
    have hx : xs = [] := List.eq_nil_of_length_eq_zero (by simpa using hown.1)
    subst hx
    obtain ⟨v2, w2, hr2, ho2, _⟩ := run_append_own (P := P) w w.heap.size t ty e i z 1 nb ht hi hz hsize hby hzs (by omega) (.slice none 0 0) 0 [] (World.ownsRow_nil _ _ _ _) a m c news hlen hnews h1 hmax hbb (Nat.le_refl _)
    rw [hr] at hr2
    injection hr2 with e1 e2
    subst e1; subst e2
    exact fun k hk => (ho2.lt k hk).1
  · by_cases hroom : n + m ≤ cap
    · left
      have hr2 := run_append_room (P := P) w t ty e i ht hi g n cap cur hgg a m c news (by rw [hsize]; exact hlen) hnews h1 hroom (by rw [hsize, hl, hcs]; omega)
      rw [hr] at hr2
      injection hr2 with e1 e2
      rw [e1]; rfl
    · right
      have hr2 := run_append_grow (P := P) w t ty e i z ht hi hz ⟨g, 0, none⟩ n cap xs (by rw [hsize]; exact hown.1) (hown.cells (g := g) rfl) a m c news (by rw [hsize]; exact hlen) hnews (by omega) (by omega) (growslice_fits (by omega) (by rw [hby]; omega))
      rw [hr] at hr2
      injection hr2 with e1 e2
      rw [e1]
      intro k hk
      simp [Value.ownBlock] at hk
      omega

theorem exec_appendT {ρ : Operand → Value} {o : Oper} {w w' : World} {v u z : Value} (t : TypeId) (x y : Operand) (ho : o.op = .call { callee := .builtin .append, args := #[x, y], argTypes := #[t, t] }) (hx : ρ x = u) (hy : ρ y = z) (h : (Builtin.append_ #[t, t] o.type #[u, z]).run Try.prog w = .ok v w') : (execOp ρ o).run Try.prog w = .ok (.value v) w' := by
  simp [execOp, ho, resolve, invoke, builtin, hx, hy, h, Result.andThen]

theorem infoT3 : (Try.prog.info? 3).map (fun i => (i.zero, i.size, i.bytes)) = some (some (.int .i64 0), 1, 8) := by kernel_rfl
theorem infoT28 : (Try.prog.info? 31).map (fun i => (i.zero, i.size, i.bytes)) = some (some (.slice none 0 0), 1, 24) := by kernel_rfl

/-- A slice of one number; of one row. -/
theorem exec_oneInt {ρ : Operand → Value} {o : Oper} {w : World} (x : Operand) (c : Int) (ho : o.op = .buildSlice 49 1 #[(0, x)]) (hx : ρ x = .int .i64 c) :
    (execOp ρ o).run Try.prog w = .ok (.value (.slice (some ⟨w.heap.size, 0, none⟩) 1 1)) (w.alloc (.cells #[.int .i64 c] 3)) := by
  obtain ⟨ie, hie, hz, hs, _⟩ := info_parts infoT3
  have h : (Instr.buildSlice 49 1 #[(0, .int .i64 c)]).run Try.prog w = .ok (.slice (some ⟨w.heap.size, 0, none⟩) 1 1) (w.alloc (.cells #[.int .i64 c] 3)) := by
    refine run_buildSlice w _ _ 1 _ _ ie _ Try.underlying49 hie hz (by rw [hs]; decide) (by rw [hs]; decide) ?_
    rw [hs]
    have e : (Array.range (1 * 1)) = #[0] := rfl
    have e2 : (Value.int .i64 0).cells = #[.int .i64 0] := rfl
    have e3 : (Value.int .i64 c).cells = #[.int .i64 c] := rfl
    simp only [Instr.fill, e, e2, e3]
    simp
  simp only [execOp, ho, List.map_toArray, List.map_cons, List.map_nil, hx, Sem.run_bind, h, Result.andThen_ok, Sem.run_pure]

theorem exec_oneRow {ρ : Operand → Value} {o : Oper} {w : World} (x : Operand) (a : Option Addr) (n c : Nat) (ho : o.op = .buildSlice 22 1 #[(0, x)]) (hx : ρ x = .slice a n c) :
    (execOp ρ o).run Try.prog w = .ok (.value (.slice (some ⟨w.heap.size, 0, none⟩) 1 1)) (w.alloc (.cells #[.slice a n c] 31)) := by
  obtain ⟨ie, hie, hz, hs, _⟩ := info_parts infoT28
  have h : (Instr.buildSlice 22 1 #[(0, .slice a n c)]).run Try.prog w = .ok (.slice (some ⟨w.heap.size, 0, none⟩) 1 1) (w.alloc (.cells #[.slice a n c] 31)) := by
    refine run_buildSlice w _ _ 1 _ _ ie _ Try.underlying22 hie hz (by rw [hs]; decide) (by rw [hs]; decide) ?_
    rw [hs]
    have e : (Array.range (1 * 1)) = #[0] := rfl
    have e2 : (Value.slice none 0 0).cells = #[.slice none 0 0] := rfl
    have e3 : (Value.slice a n c).cells = #[.slice a n c] := rfl
    simp only [Instr.fill, e, e2, e3]
    simp
  simp only [execOp, ho, List.map_toArray, List.map_cons, List.map_nil, hx, Sem.run_bind, h, Result.andThen_ok, Sem.run_pure]

/-- A row is put behind an outer row: r lies in w, and in none of the outer rows' blocks. -/
theorem RefIn.app {w : World} {q : Nat} {s s' : RSt} {vf : Nat → Value} {uf : Nat → List Value} (h : RefIn w q s vf uf) (f : Nat) (hf : f < 4) (hf2 : f ≠ 2) (a : Option Addr) (n c : Nat) (zs : List Int) (hr : RowAt w (.slice a n c) zs)
    (hoff : ∀ b, (Value.slice a n c).ownBlock = some b → b ≠ q ∧ (∀ j, j < 4 → (vf j).ownBlock ≠ some b) ∧ b < w.heap.size)
    (hs : s'.rf f = s.rf f ++ [zs]) (hoth : ∀ i, i < 4 → i ≠ f → i ≠ 2 → s'.rf i = s.rf i) (hl2 : s'.ats = s.ats) (hn : s'.ops = s.ops ∧ s'.fuse = s.fuse ∧ s'.dead = s.dead) (hlen : (uf f).length ≤ 1000000) :
    ∃ va vc w', (Builtin.append_ #[22, 22] 22 #[vf f, .slice (some ⟨w.heap.size, 0, none⟩) 1 1]).run Try.prog (w.alloc (.cells #[.slice a n c] 31)) = .ok (.slice va ((uf f).length + 1) vc) w' ∧
      Keeps (vf f).ownBlock.toList w w' ∧ w'.heap[q]? = w.heap[q]? ∧ RefIn (w'.setCell ⟨q, f, none⟩ (.slice va ((uf f).length + 1) vc)) q s' (upd vf f (.slice va ((uf f).length + 1) vc)) (upd uf f (uf f ++ [.slice a n c])) ∧
      (∀ b, (Value.slice va ((uf f).length + 1) vc).ownBlock = some b → (vf f).ownBlock = some b ∨ w.heap.size ≤ b) := by
  obtain ⟨ie, hie, hz, hsz, hby⟩ := info_parts infoT28
  have hrow := h.row f hf hf2
  have hsA : (w.alloc (.cells #[.slice a n c] 31)).heap.size = w.heap.size + 1 := by simp
  have kA := (Keeps.refl [] w).alloc (.cells #[.slice a n c] 31)
  obtain ⟨va, vc, w', hrun, ho, hg, hnw⟩ := run_append_newT (P := Try.prog) (w.alloc (.cells #[.slice a n c] 31)) 0 22 22 31 ie _ 24 Try.underlying22 hie hz hsz hby (by omega) (by rfl) (vf f) _ _ (hrow.own.alloc _) ⟨w.heap.size, 0, none⟩ 1 1 [.slice a n c] rfl
    (fun j u hu => by rw [Addr.add_mid, Nat.zero_add, cell_of_row _ _ j _ _ (0, 0) (heap_alloc_new w _)]; simpa using hu) (by simp [Value.oneCell']) (by omega) (by omega)
  have hk : ∀ k, k < w.heap.size → (vf f).ownBlock ≠ some k → w'.heap[k]? = w.heap[k]? := fun k hk hne => (hg.block k (by omega) (fun e => hne e.symm)).trans (Below.heap_alloc _ _ _ hk)
  have hszw : w.heap.size ≤ w'.heap.size := by have := hg.size; omega
  have hbb : ∀ b, (Value.slice va ((uf f).length + 1) vc).ownBlock = some b → (vf f).ownBlock = some b ∨ w.heap.size ≤ b := fun b e => by
    rcases hnw with h3 | h3
    · exact .inl (h3 ▸ e)
    · exact .inr (by have := h3 b e; omega)
  have hnot : ∀ b ∈ (uf f ++ [Value.slice a n c]).filterMap Value.ownBlock, b ≠ q ∧ (∀ j, j < 4 → (vf j).ownBlock ≠ some b) ∧ b < w.heap.size := fun b hb => by
    rw [List.filterMap_append, List.mem_append] at hb
    rcases hb with hb | hb
    · exact ⟨(h.off f hf b hb).1, (h.off f hf b hb).2, h.lt f hf b hb⟩
    · simp only [List.filterMap_cons, List.filterMap_nil] at hb
      cases e : (Value.slice a n c).ownBlock with
      | none => rw [e] at hb; simp at hb
      | some b2 =>
        rw [e] at hb
        simp at hb
        subst hb
        exact hoff b e
  refine ⟨va, vc, w', hrun, ⟨hg.os, hg.tape, hg.output, hszw, fun k hk2 hm => hk k hk2 (fun e => hm (by rw [e]; simp))⟩, hk q (lt_of_block h.blk) (h.no f hf), ?_, hbb⟩
  refine h.put f hf _ _ hszw hk hbb (fun b hb => ?_) (fun _ => ?_) (fun e => absurd e hf2) hoth (fun _ => hl2) hn
  · obtain ⟨h1, h2, h3⟩ := hnot b hb
    refine ⟨h1, fun j hj _ => h2 j hj, fun e => ?_, by omega⟩
    rcases hbb b e with h4 | h4
    · exact h2 f hf h4
    · omega
  · rw [hs]
    have hkk : ∀ b, b < w.heap.size → (vf f).ownBlock ≠ some b → w'.heap[b]? = w.heap[b]? := hk
    refine ⟨by simpa using ho, by simp [hrow.len], fun i hi => ?_⟩
    have hkeep : ∀ (u : Value) (ys : List Int), RowAt w u ys → u ∈ uf f ++ [Value.slice a n c] → RowAt w' u ys := fun u ys hu hm => by
      obtain ⟨a1, cap, e, r1, r2, r3, r4, r5⟩ := hu
      refine ⟨a1, cap, e, r1, r2, r3, r4, fun ad had j x hx => ?_⟩
      have hm2 : ad.block ∈ (uf f ++ [Value.slice a n c]).filterMap Value.ownBlock := List.mem_filterMap.2 ⟨u, hm, by rw [e, had]; rfl⟩
      obtain ⟨_, h2, h3⟩ := hnot ad.block hm2
      rw [World.cell?_of_block (w := w) (a := ad.add j) (by rw [Addr.add_block]; exact hkk ad.block h3 (h2 f hf))]
      exact r5 ad had j x hx
    by_cases hlt : i < (uf f).length
    · rw [List.getElem_append_left hlt]
      have := hrow.rows i hlt
      rw [List.getD_eq_getElem?_getD, List.getElem?_append_left (by rw [← hrow.len]; exact hlt), ← List.getD_eq_getElem?_getD]
      exact hkeep _ _ this (List.mem_append_left _ (List.getElem_mem hlt))
    · have hi2 : i = (uf f).length := by simp at hi; omega
      subst hi2
      rw [List.getElem_append_right (Nat.le_refl _)]
      have e : (s.rf f ++ [zs]).getD (uf f).length [] = zs := by rw [hrow.len]; simp
      rw [e]
      simp only [Nat.sub_self, List.getElem_cons_zero]
      exact hkeep _ _ hr (by simp)

end Go.Proofs.Ytiljhjegfklgmaa


/- A drawn region: a load beside a chain of two (a call or what makes memory, then an operation). -/
namespace Go.Proofs.Ytiljhjegfklgmaa
open Go.RowKit

section
variable {P : Program} {ops : Array Oper} {Q : Exit → Act → World → Prop} {md : Region.Mode}

theorem any_wp {i : Nat} {o : Oper} {a : Act} {w : World} {K : Act → World → Prop} (ho : ops[i]? = some o) (hg : o.guard = none) (h : o.wp P a w K Q) : wpOp P ops Q i K a w := by
  have hw : Region.wanted o (yielded ops a.tmps) = true := by simp [Region.wanted, hg]
  unfold wpOp
  simp only [ho, hw, if_true]
  exact Or.inl h

theorem any_chain {i j k : Nat} {oi oj ok : Oper} {vi : Value} {R1 : Value → World → Prop} {R2 : Value → Value → World → Prop} {fuel : Nat} {listed : Array Bool} {a : Act} {w : World}
    (r0 : Region.ready md ops listed = [i, j]) (r1 : Region.ready md ops (listed.setIfInBounds i true) = [j]) (r2 : Region.ready md ops ((listed.setIfInBounds i true).setIfInBounds j true) = [k])
    (r3 : Region.ready md ops (listed.setIfInBounds j true) = [i, k]) (r5 : Region.ready md ops ((listed.setIfInBounds j true).setIfInBounds k true) = [i])
    (hij : i ≠ j) (hik : i ≠ k) (hi' : ops.toList[i]? = some oi) (hj' : ops.toList[j]? = some oj) (hk' : ops.toList[k]? = some ok) (gi : oi.guard = none) (gj : oj.guard = none) (gk : ok.guard = none)
    (dij : ∀ d, oj.dst = some d → oi.dst ≠ some d) (dik : ∀ d, ok.dst = some d → oi.dst ≠ some d)
    (e0 : (execOp a.eval oi).run P w = .ok (.value vi) w)
    (e1 : ∀ v w1, R1 v w1 → (execOp (a.put oj.dst v).eval oi).run P w1 = .ok (.value vi) w1)
    (e2 : ∀ v u w2, R2 v u w2 → (execOp ((a.put oj.dst v).put ok.dst u).eval oi).run P w2 = .ok (.value vi) w2)
    (ej : ∀ (K : Act → World → Prop), (∀ v w1, R1 v w1 → K (a.put oj.dst v) w1) → oj.wp P a w K Q)
    (ej' : ∀ (K : Act → World → Prop), (∀ v w1, R1 v w1 → K ((a.put oi.dst vi).put oj.dst v) w1) → oj.wp P (a.put oi.dst vi) w K Q)
    (ek : ∀ v w1, R1 v w1 → ∃ u w2, (execOp (a.put oj.dst v).eval ok).run P w1 = .ok (.value u) w2 ∧ R2 v u w2)
    (ek' : ∀ v w1, R1 v w1 → ∃ u w2, (execOp ((a.put oi.dst vi).put oj.dst v).eval ok).run P w1 = .ok (.value u) w2 ∧ R2 v u w2)
    (h : ∀ v u w2, R2 v u w2 → wpAny P md ops Q fuel (((listed.setIfInBounds i true).setIfInBounds j true).setIfInBounds k true) (((a.put oi.dst vi).put oj.dst v).put ok.dst u) w2) :
    wpAny P md ops Q (fuel + 3) listed a w := by
  have hi : ops[i]? = some oi := by simpa using hi'
  have hj : ops[j]? = some oj := by simpa using hj'
  have hk : ops[k]? = some ok := by simpa using hk'
  have c1 : (listed.setIfInBounds j true).setIfInBounds i true = (listed.setIfInBounds i true).setIfInBounds j true := Array.setIfInBounds_comm _ _ (Ne.symm hij)
  have c2 : ((listed.setIfInBounds j true).setIfInBounds k true).setIfInBounds i true = ((listed.setIfInBounds i true).setIfInBounds j true).setIfInBounds k true := by
    rw [Array.setIfInBounds_comm _ _ (Ne.symm hik), c1]
  have p1 : ∀ v, ((a.put oj.dst v).put oi.dst vi) = (a.put oi.dst vi).put oj.dst v := fun v => Act.put_comm a v vi dij
  have p2 : ∀ v u, (((a.put oj.dst v).put ok.dst u).put oi.dst vi) = ((a.put oi.dst vi).put oj.dst v).put ok.dst u := fun v u => by
    rw [← p1]; exact Act.put_comm _ u vi dik
  refine wpAny_all r0 (by simp) fun x hx => ?_
  simp only [List.mem_cons, List.not_mem_nil, or_false] at hx
  rcases hx with rfl | rfl
  · refine any_op hi gi e0 (wpAny_all r1 (by simp) fun y hy => ?_)
    obtain rfl : y = j := by simpa using hy
    refine any_wp hj gj (ej' _ fun v w1 hR => wpAny_all r2 (by simp) fun z hz => ?_)
    obtain rfl : z = k := by simpa using hz
    obtain ⟨u, w2, hrun, hR2⟩ := ek' v w1 hR
    exact any_op hk gk hrun (h v u w2 hR2)
  · refine any_wp hj gj (ej _ fun v w1 hR => wpAny_all r3 (by simp) fun y hy => ?_)
    simp only [List.mem_cons, List.not_mem_nil, or_false] at hy
    rcases hy with rfl | rfl
    · refine any_op hi gi (e1 v w1 hR) ?_
      rw [c1, p1]
      refine wpAny_all r2 (by simp) fun z hz => ?_
      obtain rfl : z = k := by simpa using hz
      obtain ⟨u, w2, hrun, hR2⟩ := ek' v w1 hR
      exact any_op hk gk hrun (h v u w2 hR2)
    · obtain ⟨u, w2, hrun, hR2⟩ := ek v w1 hR
      refine any_op hk gk hrun (wpAny_all r5 (by simp) fun z hz => ?_)
      obtain rfl : z = i := by simpa using hz
      refine any_op hi gi (e2 v u w2 hR2) ?_
      rw [c2, p2]
      exact h v u w2 hR2
end
end Go.Proofs.Ytiljhjegfklgmaa


/- The reference's disk: NewDisk. -/
namespace Go.Proofs.Ytiljhjegfklgmaa
open Go.RowKit

/-- A disk that is being made: k rows of noughts in Now, m in Lasts. -/
def Rk (k m : Nat) : RSt := ⟨fun i => if i = 0 then List.replicate k zrow.1 else if i = 1 then List.replicate m zrow.1 else [], [], 0, -1, false⟩

theorem Rk_new (c : Nat) : (blankS c).ref = Rk c c := by
  unfold DS.ref Rk
  congr 1
  funext i
  simp only [rsOf, blankS]
  by_cases h0 : i = 0
  · subst h0; simp [List.map_const']
  · by_cases h1 : i = 1
    · subst h1; simp [List.map_const']
    · simp [h0, h1]

theorem RefIn.start (w : World) : RefIn (w.alloc (.cells #[.slice none 0 0, .slice none 0 0, .slice none 0 0, .slice none 0 0, .int .i64 0, .int .i64 (-1), .bool false] 51)) w.heap.size (Rk 0 0) (fun _ => .slice none 0 0) (fun _ => []) :=
  ⟨heap_alloc_new w _, fun i hi h2 => ⟨World.ownsRow_nil _ _ _ _, by simp only [Rk]; split <;> simp, fun i hi => by simp at hi⟩, World.ownsRow_nil _ _ _ _, rfl, fun _ _ _ _ _ b e => (by cases e), fun _ _ e => (by cases e), fun _ _ b hb => (by simp at hb), fun _ _ b hb => (by simp at hb)⟩

def noughts : Array Value := Array.replicate 64 (.int .u8 0)
theorem row_noughts (w : World) : RowAt (w.alloc (.cells noughts 5)) (.slice (some ⟨w.heap.size, 0, none⟩) 64 64) zrow.1 := by
  have hz : zrow.1 = List.replicate 64 0 := by kernel_rfl
  rw [hz]
  refine ⟨some ⟨w.heap.size, 0, none⟩, 64, by simp, by simp, by unfold maxLen; omega, by simp, fun z hz => ?_, fun ad had j u hu => ?_⟩
  · have := (List.mem_replicate.1 hz).2; omega
  · obtain rfl := Option.some.inj had
    rw [Addr.add_mid, Nat.zero_add, cell_of_row _ _ j _ _ (0, 0) (heap_alloc_new w _)]
    rw [List.map_replicate] at hu
    rw [noughts, ← Array.getElem?_toList, Array.toList_replicate]
    exact hu

theorem run_noughts (w : World) : (Instr.makeSlice 31 (.int .i64 64) (.int .i64 64)).run Try.prog w = .ok (.slice (some ⟨w.heap.size, 0, none⟩) 64 64) (w.alloc (.cells noughts 5)) := by
  obtain ⟨i5, hi5, hz5, hs5, hb5⟩ := info_parts info5
  have := run_makeSlice (P := Try.prog) w 31 5 i5 _ Try.underlying31 hi5 hz5 .i64 .i64 64 64 (by omega) (by omega) (by rw [hs5]; omega) (by rw [hb5]; omega) (by omega)
  rw [this, hs5]
  have e : madeCells (Value.int .u8 0).cells 64 = noughts := by
    apply Array.ext'
    exact (toList_madeCells_one (Value.int .u8 0) 64).trans (by simp [noughts])
  rw [← e]
  rfl

theorem exec_noughts {ρ : Operand → Value} {o : Oper} {w : World} (x y : Operand) (ho : o.op = .makeSlice 31 x y) (hx : ρ x = .int .i64 64) (hy : ρ y = .int .i64 64) :
    (execOp ρ o).run Try.prog w = .ok (.value (.slice (some ⟨w.heap.size, 0, none⟩) 64 64)) (w.alloc (.cells noughts 5)) := by
  simp only [execOp, ho, hx, hy, Sem.run_bind, run_noughts, Result.andThen_ok, Sem.run_pure]

set_option maxRecDepth 100000 in
set_option maxHeartbeats 4000000 in
theorem rnew_any (c : Nat) (h2 : 2 ≤ c) (hc : c ≤ 4160) (w : World) :
    Calls Try.prog 6 #[.int .i64 c] w fun e w' => ∃ q vf uf, e = .returned (.tuple #[.pointer (some ⟨q, 0, none⟩), .int .i64 0]) ∧ RefIn w' q (blankS c).ref vf uf ∧ (∀ b, RB q vf uf b → w.heap.size ≤ b) ∧ Keeps [] w w' := by
  rw [Rk_new]
  have R0 := hid (RefIn.start w)
  go_enter Try.func6, Try.ntmps6
  go_wp2_with fail
  go_loopw [5] (fun v wr => ∃ (k : Nat) (vf : Nat → Value) (uf : Nat → List Value), k ≤ c ∧ v = .int .i64 k ∧ RefIn wr w.heap.size (Rk k k) vf uf ∧ (∀ b, RB w.heap.size vf uf b → w.heap.size ≤ b) ∧ Keeps [] w wr)
    (fun v _ => c - (intOf v).toNat)
  case atStart =>
    refine ⟨0, _, _, by omega, rfl, R0.out, fun b hb => ?_, (Keeps.refl _ _).alloc _⟩
    rcases hb with rfl | ⟨_, _, e | e⟩
    · exact Nat.le_refl _
    · cases e
    · simp at e
  case round =>
    obtain ⟨k, vf, uf, hk, rfl, hR, hB, hK⟩ := hrel
    have RR := hid hR
    have BB := hid hB
    have KK := hid hK
    clear hR hB hK R0
    by_cases hlt : k < c
    · have hlt' : (k : Int) < (c : Int) := by omega
      go_wp2_with fail
      have RD1 := hid (RR.out.keep (show Keeps [] wr wr.drew from ⟨rfl, rfl, rfl, Nat.le_refl _, fun _ _ _ => rfl⟩) (by simp))
      have RZ1 := hid (RD1.out.keep ((Keeps.refl [] wr.drew).alloc (.cells noughts 5)) (by simp))
      have RY1 := hid (RZ1.out.keep ((Keeps.refl [] (wr.drew.alloc (.cells noughts 5))).alloc (.cells #[(Value.slice (some ⟨wr.drew.heap.size, 0, none⟩) 64 64)] 31)) (by simp))
      have m1 := run_loadCell (P := Try.prog) wr.drew 22 ⟨w.heap.size, 0, none⟩ (vf 0) RD1.out.c0 (agg_no _ (by kernel_rfl))
      have m2 := run_loadCell (P := Try.prog) (wr.drew.alloc (.cells noughts 5)) 22 ⟨w.heap.size, 0, none⟩ (vf 0) RZ1.out.c0 (agg_no _ (by kernel_rfl))
      have m3 := run_loadCell (P := Try.prog) ((wr.drew.alloc (.cells noughts 5)).alloc (.cells #[(Value.slice (some ⟨wr.drew.heap.size, 0, none⟩) 64 64)] 31)) 22 ⟨w.heap.size, 0, none⟩ (vf 0) RY1.out.c0 (agg_no _ (by kernel_rfl))
      refine wp_region_noPanic (wp_region_any (by kernel_rfl) ?_)
      refine any_take (i := 0) (v := .pointer (some ⟨w.heap.size, 0, none⟩)) rfl (by kernel_rfl) (by kernel_rfl) (by kernel_rfl) (fun _ _ _ h => h) rfl (fun W1 => rfl) ?_
      simp only [Act.put, List.setIfInBounds_toArray, List.set_cons_zero, List.set_cons_succ]
      refine any_take (i := 1) (v := .pointer (some ⟨w.heap.size, 0, none⟩)) rfl (by kernel_rfl) (by kernel_rfl) (by kernel_rfl) (fun _ _ _ h => h) rfl (fun W1 => rfl) ?_
      simp only [Act.put, List.setIfInBounds_toArray, List.set_cons_zero, List.set_cons_succ]
      refine any_take (i := 2) (v := .pointer (some ⟨w.heap.size, 0, none⟩)) rfl (by kernel_rfl) (by kernel_rfl) (by kernel_rfl) (fun _ _ _ h => h) rfl (fun W1 => by go_simp) ?_
      simp only [Act.put, List.setIfInBounds_toArray, List.set_cons_zero, List.set_cons_succ]
      refine any_take (i := 3) (v := .pointer (some ⟨w.heap.size, 0, none⟩)) rfl (by kernel_rfl) (by kernel_rfl) (by kernel_rfl) (fun _ _ _ h => h) rfl (fun W1 => by go_simp) ?_
      simp only [Act.put, List.setIfInBounds_toArray, List.set_cons_zero, List.set_cons_succ]
      refine any_chain (i := 4) (j := 5) (k := 6) (vi := vf 0) (R1 := fun v w1 => v = (Value.slice (some ⟨wr.drew.heap.size, 0, none⟩) 64 64) ∧ w1 = (wr.drew.alloc (.cells noughts 5))) (R2 := fun v u w2 => v = (Value.slice (some ⟨wr.drew.heap.size, 0, none⟩) 64 64) ∧ u = .slice (some ⟨(wr.drew.alloc (.cells noughts 5)).heap.size, 0, none⟩) 1 1 ∧ w2 = (wr.drew.alloc (.cells noughts 5)).alloc (.cells #[(Value.slice (some ⟨wr.drew.heap.size, 0, none⟩) 64 64)] 31)) (by kernel_rfl) (by kernel_rfl) (by kernel_rfl) (by kernel_rfl) (by kernel_rfl) (by decide) (by decide) rfl rfl rfl rfl rfl rfl (by simp) (by simp)
        (exec_load _ _ _ _ rfl rfl m1) (fun v w1 h => by obtain ⟨rfl, rfl⟩ := h; exact exec_load _ _ _ _ rfl rfl m2) (fun v u w2 h => by obtain ⟨rfl, rfl, rfl⟩ := h; exact exec_load _ _ _ _ rfl rfl m3)
        (fun K hK => wp_value (exec_noughts _ _ rfl rfl rfl) (hK _ _ ⟨rfl, rfl⟩)) (fun K hK => wp_value (exec_noughts _ _ rfl rfl rfl) (hK _ _ ⟨rfl, rfl⟩))
        (fun v w1 h => by obtain ⟨rfl, rfl⟩ := h; exact ⟨_, _, exec_oneRow _ _ 64 64 rfl rfl, rfl, rfl, rfl⟩) (fun v w1 h => by obtain ⟨rfl, rfl⟩ := h; exact ⟨_, _, exec_oneRow _ _ 64 64 rfl rfl, rfl, rfl, rfl⟩) ?_
      rintro v u w2 ⟨rfl, rfl, rfl⟩
      simp only [Act.put, List.setIfInBounds_toArray, List.set_cons_zero, List.set_cons_succ]
      have hz1 : (wr.drew.alloc (.cells noughts 5)).heap.size = wr.heap.size + 1 := by simp
      have hl1 : (uf 0).length = k := by rw [(RR.out.row 0 (by omega) (by omega)).len]; simp [Rk]
      obtain ⟨va1, vc1, wf1, hrun, kf, hq, RF, hbb⟩ := RefIn.app (s' := (Rk (k + 1) k)) RZ1.out 0 (by omega) (by omega) _ 64 64 _ (row_noughts wr.drew) (fun b e => by
          have eb : wr.heap.size = b := by simpa [Value.ownBlock] using e
          subst eb
          exact ⟨fun e => by have := RR.out.lt' _ (.inl e); omega, fun j hj e => by have := RR.out.lt' _ (.inr ⟨j, hj, .inl e⟩); omega, by omega⟩)
        (by simp [Rk, List.replicate_succ']) (fun i h1 h2 h3 => by simp [Rk, h2]) rfl ⟨rfl, rfl, rfl⟩ (by omega)
      rw [hl1] at hrun RF hbb
      refine any_do (i := 7) (by kernel_rfl) rfl rfl (wp_value (exec_appendT _ _ _ rfl rfl rfl hrun) ?_)
      simp only [Act.put, List.setIfInBounds_toArray, List.set_cons_zero, List.set_cons_succ]
      refine any_take (i := 8) (v := .pointer (some ⟨w.heap.size, 0, none⟩)) rfl (by kernel_rfl) (by kernel_rfl) (by kernel_rfl) (fun _ _ _ h => h) rfl (fun W1 => by go_simp) ?_
      simp only [Act.put, List.setIfInBounds_toArray, List.set_cons_zero, List.set_cons_succ]
      refine any_take (i := 9) (v := .pointer (some ⟨w.heap.size, 0, none⟩)) rfl (by kernel_rfl) (by kernel_rfl) (by kernel_rfl) (fun _ _ _ h => h) rfl (fun W1 => by go_simp) ?_
      simp only [Act.put, List.setIfInBounds_toArray, List.set_cons_zero, List.set_cons_succ]
      have cf := (World.cell?_of_block (a := ⟨w.heap.size, 0, none⟩) hq).trans RZ1.out.c0
      have ff : wf1.frozen? ⟨w.heap.size, 0, none⟩ = false := by simp [World.frozen?, hq, RZ1.out.blk]
      have RF1 := hid RF
      have KF1 : Hid (Keeps [] w (wf1.setCell ⟨w.heap.size, 0, none⟩ (.slice va1 (k + 1) vc1))) := hid ((((KK.out.trans ((show Keeps [] wr wr.drew from ⟨rfl, rfl, rfl, Nat.le_refl _, fun _ _ _ => rfl⟩).alloc (.cells noughts 5))).trans' kf (fun i hi hm => by have := BB.out i (.inr ⟨0, by omega, .inl (by simpa using hm)⟩); omega))).setCell (Or.inr (Nat.le_refl _)) _)
      have BF1 : Hid (∀ b, RB w.heap.size (upd vf 0 (.slice va1 (k + 1) vc1)) (upd uf 0 (uf 0 ++ [(Value.slice (some ⟨wr.drew.heap.size, 0, none⟩) 64 64)])) b → w.heap.size ≤ b) := hid fun b hb => by
        have hkw := KK.out.size
        rcases hb with rfl | ⟨i, hi, e⟩
        · exact Nat.le_refl _
        · by_cases ei : i = 0
          · subst ei
            rw [upd_same, upd_same] at e
            rcases e with e | e
            · rcases hbb b e with h3 | h3
              · exact BB.out b (.inr ⟨0, by omega, .inl h3⟩)
              · omega
            · rw [List.filterMap_append, List.mem_append] at e
              rcases e with e | e
              · exact BB.out b (.inr ⟨0, by omega, .inr e⟩)
              · have eb : b = wr.heap.size := by simpa [Value.ownBlock] using e
                omega
          · rw [upd_ne _ _ ei, upd_ne _ _ ei] at e
            exact BB.out b (.inr ⟨i, hi, e⟩)
      refine any_do (i := 10) (by kernel_rfl) rfl rfl ?_
      go_simp
      refine wpAny_done (by kernel_rfl) (NoPanic.normal ?_) _
      generalize wf1.setCell ⟨w.heap.size, 0, none⟩ (.slice va1 (k + 1) vc1) = wg1 at RF1 KF1 ⊢
      generalize upd vf 0 (.slice va1 (k + 1) vc1) = vf1 at RF1 BF1
      generalize upd uf 0 (uf 0 ++ [(Value.slice (some ⟨wr.drew.heap.size, 0, none⟩) 64 64)]) = uf1 at RF1 BF1
      clear RF hbb hq kf hrun m1 m2 m3 cf ff RD1 RZ1 RY1 hz1 hl1 RR KK BB
      go_wp2_with fail
      have RD2 := hid (RF1.out.keep (show Keeps [] wg1 wg1.drew from ⟨rfl, rfl, rfl, Nat.le_refl _, fun _ _ _ => rfl⟩) (by simp))
      have RZ2 := hid (RD2.out.keep ((Keeps.refl [] wg1.drew).alloc (.cells noughts 5)) (by simp))
      have RY2 := hid (RZ2.out.keep ((Keeps.refl [] (wg1.drew.alloc (.cells noughts 5))).alloc (.cells #[(Value.slice (some ⟨wg1.drew.heap.size, 0, none⟩) 64 64)] 31)) (by simp))
      have m1 := run_loadCell (P := Try.prog) wg1.drew 22 ⟨w.heap.size, 1, none⟩ (vf1 1) RD2.out.c1 (agg_no _ (by kernel_rfl))
      have m2 := run_loadCell (P := Try.prog) (wg1.drew.alloc (.cells noughts 5)) 22 ⟨w.heap.size, 1, none⟩ (vf1 1) RZ2.out.c1 (agg_no _ (by kernel_rfl))
      have m3 := run_loadCell (P := Try.prog) ((wg1.drew.alloc (.cells noughts 5)).alloc (.cells #[(Value.slice (some ⟨wg1.drew.heap.size, 0, none⟩) 64 64)] 31)) 22 ⟨w.heap.size, 1, none⟩ (vf1 1) RY2.out.c1 (agg_no _ (by kernel_rfl))
      refine wp_region_noPanic (wp_region_any (by kernel_rfl) ?_)
      refine any_take (i := 0) (v := .pointer (some ⟨w.heap.size, 0, none⟩)) rfl (by kernel_rfl) (by kernel_rfl) (by kernel_rfl) (fun _ _ _ h => h) rfl (fun W1 => rfl) ?_
      simp only [Act.put, List.setIfInBounds_toArray, List.set_cons_zero, List.set_cons_succ]
      refine any_take (i := 1) (v := .pointer (some ⟨w.heap.size, 0, none⟩)) rfl (by kernel_rfl) (by kernel_rfl) (by kernel_rfl) (fun _ _ _ h => h) rfl (fun W1 => rfl) ?_
      simp only [Act.put, List.setIfInBounds_toArray, List.set_cons_zero, List.set_cons_succ]
      refine any_take (i := 2) (v := .pointer (some ⟨w.heap.size, 0, none⟩)) rfl (by kernel_rfl) (by kernel_rfl) (by kernel_rfl) (fun _ _ _ h => h) rfl (fun W1 => by go_simp) ?_
      simp only [Act.put, List.setIfInBounds_toArray, List.set_cons_zero, List.set_cons_succ]
      refine any_take (i := 3) (v := .pointer (some ⟨w.heap.size, 1, none⟩)) rfl (by kernel_rfl) (by kernel_rfl) (by kernel_rfl) (fun _ _ _ h => h) rfl (fun W1 => by go_simp) ?_
      simp only [Act.put, List.setIfInBounds_toArray, List.set_cons_zero, List.set_cons_succ]
      refine any_chain (i := 4) (j := 5) (k := 6) (vi := vf1 1) (R1 := fun v w1 => v = (Value.slice (some ⟨wg1.drew.heap.size, 0, none⟩) 64 64) ∧ w1 = (wg1.drew.alloc (.cells noughts 5))) (R2 := fun v u w2 => v = (Value.slice (some ⟨wg1.drew.heap.size, 0, none⟩) 64 64) ∧ u = .slice (some ⟨(wg1.drew.alloc (.cells noughts 5)).heap.size, 0, none⟩) 1 1 ∧ w2 = (wg1.drew.alloc (.cells noughts 5)).alloc (.cells #[(Value.slice (some ⟨wg1.drew.heap.size, 0, none⟩) 64 64)] 31)) (by kernel_rfl) (by kernel_rfl) (by kernel_rfl) (by kernel_rfl) (by kernel_rfl) (by decide) (by decide) rfl rfl rfl rfl rfl rfl (by simp) (by simp)
        (exec_load _ _ _ _ rfl rfl m1) (fun v w1 h => by obtain ⟨rfl, rfl⟩ := h; exact exec_load _ _ _ _ rfl rfl m2) (fun v u w2 h => by obtain ⟨rfl, rfl, rfl⟩ := h; exact exec_load _ _ _ _ rfl rfl m3)
        (fun K hK => wp_value (exec_noughts _ _ rfl rfl rfl) (hK _ _ ⟨rfl, rfl⟩)) (fun K hK => wp_value (exec_noughts _ _ rfl rfl rfl) (hK _ _ ⟨rfl, rfl⟩))
        (fun v w1 h => by obtain ⟨rfl, rfl⟩ := h; exact ⟨_, _, exec_oneRow _ _ 64 64 rfl rfl, rfl, rfl, rfl⟩) (fun v w1 h => by obtain ⟨rfl, rfl⟩ := h; exact ⟨_, _, exec_oneRow _ _ 64 64 rfl rfl, rfl, rfl, rfl⟩) ?_
      rintro v u w2 ⟨rfl, rfl, rfl⟩
      simp only [Act.put, List.setIfInBounds_toArray, List.set_cons_zero, List.set_cons_succ]
      have hz2 : (wg1.drew.alloc (.cells noughts 5)).heap.size = wg1.heap.size + 1 := by simp
      have hl2 : (uf1 1).length = k := by rw [(RF1.out.row 1 (by omega) (by omega)).len]; simp [Rk]
      obtain ⟨va2, vc2, wf2, hrun, kf, hq, RF, hbb⟩ := RefIn.app (s' := (Rk (k + 1) (k + 1))) RZ2.out 1 (by omega) (by omega) _ 64 64 _ (row_noughts wg1.drew) (fun b e => by
          have eb : wg1.heap.size = b := by simpa [Value.ownBlock] using e
          subst eb
          exact ⟨fun e => by have := RF1.out.lt' _ (.inl e); omega, fun j hj e => by have := RF1.out.lt' _ (.inr ⟨j, hj, .inl e⟩); omega, by omega⟩)
        (by simp [Rk, List.replicate_succ']) (fun i h1 h2 h3 => by simp [Rk, h2]) rfl ⟨rfl, rfl, rfl⟩ (by omega)
      rw [hl2] at hrun RF hbb
      refine any_do (i := 7) (by kernel_rfl) rfl rfl (wp_value (exec_appendT _ _ _ rfl rfl rfl hrun) ?_)
      simp only [Act.put, List.setIfInBounds_toArray, List.set_cons_zero, List.set_cons_succ]
      refine any_take (i := 8) (v := .pointer (some ⟨w.heap.size, 0, none⟩)) rfl (by kernel_rfl) (by kernel_rfl) (by kernel_rfl) (fun _ _ _ h => h) rfl (fun W1 => by go_simp) ?_
      simp only [Act.put, List.setIfInBounds_toArray, List.set_cons_zero, List.set_cons_succ]
      refine any_take (i := 9) (v := .pointer (some ⟨w.heap.size, 1, none⟩)) rfl (by kernel_rfl) (by kernel_rfl) (by kernel_rfl) (fun _ _ _ h => h) rfl (fun W1 => by go_simp) ?_
      simp only [Act.put, List.setIfInBounds_toArray, List.set_cons_zero, List.set_cons_succ]
      have cf := (World.cell?_of_block (a := ⟨w.heap.size, 1, none⟩) hq).trans RZ2.out.c1
      have ff : wf2.frozen? ⟨w.heap.size, 1, none⟩ = false := by simp [World.frozen?, hq, RZ2.out.blk]
      have RF2 := hid RF
      have KF2 : Hid (Keeps [] w (wf2.setCell ⟨w.heap.size, 1, none⟩ (.slice va2 (k + 1) vc2))) := hid ((((KF1.out.trans ((show Keeps [] wg1 wg1.drew from ⟨rfl, rfl, rfl, Nat.le_refl _, fun _ _ _ => rfl⟩).alloc (.cells noughts 5))).trans' kf (fun i hi hm => by have := BF1.out i (.inr ⟨1, by omega, .inl (by simpa using hm)⟩); omega))).setCell (Or.inr (Nat.le_refl _)) _)
      have BF2 : Hid (∀ b, RB w.heap.size (upd vf1 1 (.slice va2 (k + 1) vc2)) (upd uf1 1 (uf1 1 ++ [(Value.slice (some ⟨wg1.drew.heap.size, 0, none⟩) 64 64)])) b → w.heap.size ≤ b) := hid fun b hb => by
        have hkw := KF1.out.size
        rcases hb with rfl | ⟨i, hi, e⟩
        · exact Nat.le_refl _
        · by_cases ei : i = 1
          · subst ei
            rw [upd_same, upd_same] at e
            rcases e with e | e
            · rcases hbb b e with h3 | h3
              · exact BF1.out b (.inr ⟨1, by omega, .inl h3⟩)
              · omega
            · rw [List.filterMap_append, List.mem_append] at e
              rcases e with e | e
              · exact BF1.out b (.inr ⟨1, by omega, .inr e⟩)
              · have eb : b = wg1.heap.size := by simpa [Value.ownBlock] using e
                omega
          · rw [upd_ne _ _ ei, upd_ne _ _ ei] at e
            exact BF1.out b (.inr ⟨i, hi, e⟩)
      refine any_do (i := 10) (by kernel_rfl) rfl rfl ?_
      go_simp
      refine wpAny_done (by kernel_rfl) (NoPanic.normal ?_) _
      generalize wf2.setCell ⟨w.heap.size, 1, none⟩ (.slice va2 (k + 1) vc2) = wg2 at RF2 KF2 ⊢
      generalize upd vf1 1 (.slice va2 (k + 1) vc2) = vf2 at RF2 BF2
      generalize upd uf1 1 (uf1 1 ++ [(Value.slice (some ⟨wg1.drew.heap.size, 0, none⟩) 64 64)]) = uf2 at RF2 BF2
      clear RF hbb hq kf hrun m1 m2 m3 cf ff RD2 RZ2 RY2 hz2 hl2 RF1 KF1 BF1
      go_wp2_with fail
      go_roundw
      case rel => exact ⟨k + 1, vf2, uf2, by omega, by simp, RF2.out, BF2.out, KF2.out⟩
      case measure => simp [intOf]; omega
    · have : k = c := by omega
      subst this
      go_wp2_with fail
      go_ret2
      exact ⟨_, vf, uf, rfl, RR.out, BB.out, KK.out⟩

end Go.Proofs.Ytiljhjegfklgmaa


/- The reference's disk: a number put behind At; a row of a row of rows replaced; what NewDisk refuses. -/
namespace Go.Proofs.Ytiljhjegfklgmaa
open Go.RowKit

theorem rnewBad_any (c : Int) (h : c < 2 ∨ 4160 < c) (w : World) :
    Calls Try.prog 6 #[.int .i64 c] w fun e w' => e = .returned (.tuple #[.pointer none, .int .i64 1]) ∧ w = w' := by
  by_cases h2 : c < 2
  · go_enter Try.func6, Try.ntmps6
    go_wp2_with fail
    go_ret2
    exact ⟨rfl, rfl⟩
  · have h3 : 4160 < c := h.resolve_left h2
    go_enter Try.func6, Try.ntmps6
    go_wp2_with fail
    go_ret2
    exact ⟨rfl, rfl⟩

/-- A number is put behind At. -/
theorem RefIn.appAt {w : World} {q : Nat} {s s' : RSt} {vf : Nat → Value} {uf : Nat → List Value} (h : RefIn w q s vf uf) (n : Int) (hs : s'.ats = s.ats ++ [n]) (hrf : s'.rf = s.rf)
    (hn : s'.ops = s.ops ∧ s'.fuse = s.fuse ∧ s'.dead = s.dead) (hlen : s.ats.length ≤ 1000000) :
    ∃ va vc w', (Builtin.append_ #[49, 49] 49 #[vf 2, .slice (some ⟨w.heap.size, 0, none⟩) 1 1]).run Try.prog (w.alloc (.cells #[.int .i64 n] 3)) = .ok (.slice va (s.ats.length + 1) vc) w' ∧
      Keeps (vf 2).ownBlock.toList w w' ∧ w'.heap[q]? = w.heap[q]? ∧ RefIn (w'.setCell ⟨q, 2, none⟩ (.slice va (s.ats.length + 1) vc)) q s' (upd vf 2 (.slice va (s.ats.length + 1) vc)) (upd uf 2 []) ∧
      (∀ b, (Value.slice va (s.ats.length + 1) vc).ownBlock = some b → (vf 2).ownBlock = some b ∨ w.heap.size ≤ b) := by
  obtain ⟨ie, hie, hz, hsz, hby⟩ := info_parts infoT3
  have hsA : (w.alloc (.cells #[.int .i64 n] 3)).heap.size = w.heap.size + 1 := by simp
  obtain ⟨va, vc, w', hrun, ho, hg, hnw⟩ := run_append_newT (P := Try.prog) (w.alloc (.cells #[.int .i64 n] 3)) 0 49 49 3 ie _ 8 Try.underlying49 hie hz hsz hby (by omega) (by rfl) (vf 2) _ _ (h.at_.alloc _) ⟨w.heap.size, 0, none⟩ 1 1 [.int .i64 n] rfl
    (fun j u hu => by rw [Addr.add_mid, Nat.zero_add, cell_of_row _ _ j _ _ (0, 0) (heap_alloc_new w _)]; simpa using hu) (by simp [Value.oneCell']) (by omega) (by omega)
  have hk : ∀ k, k < w.heap.size → (vf 2).ownBlock ≠ some k → w'.heap[k]? = w.heap[k]? := fun k hk hne => (hg.block k (by omega) (fun e => hne e.symm)).trans (Below.heap_alloc _ _ _ hk)
  have hszw : w.heap.size ≤ w'.heap.size := by have := hg.size; omega
  have hbb : ∀ b, (Value.slice va (s.ats.length + 1) vc).ownBlock = some b → (vf 2).ownBlock = some b ∨ w.heap.size ≤ b := fun b e => by
    rcases hnw with h3 | h3
    · exact .inl (h3 ▸ e)
    · exact .inr (by have := h3 b e; omega)
  refine ⟨va, vc, w', hrun, ⟨hg.os, hg.tape, hg.output, hszw, fun k hk2 hm => hk k hk2 (fun e => hm (by rw [e]; simp))⟩, hk q (lt_of_block h.blk) (h.no 2 (by omega)), ?_, hbb⟩
  refine h.put 2 (by omega) _ [] hszw hk hbb (fun b hb => by simp at hb) (fun e => absurd rfl e) (fun _ => ⟨rfl, ?_⟩) (fun i _ _ _ => by rw [hrf]) (fun e => absurd rfl e) hn
  rw [hs]
  simpa using ho

theorem own_set {w : World} {B : Nat} {e : TypeId} {n c g : Nat} {xs : List Value} (h : w.ownsRow B e 1 (.slice (some ⟨g, 0, none⟩) n c) n xs) (i : Nat) (u : Value) : (w.setCell ⟨g, i, none⟩ u).ownsRow B e 1 (.slice (some ⟨g, 0, none⟩) n c) n (xs.set i u) := by
  refine ⟨by simpa using h.1, ?_⟩
  rcases h.2 with ⟨h0, _⟩ | ⟨g', cap, cur, h0, hb, hg, hnc, hcm, hcs, ht⟩
  · cases h0
  · injection h0 with h1 _ h3
    injection h1 with h1
    injection h1 with h1
    subst h1; subst h3
    refine .inr ⟨g, c, cur.setIfInBounds i u, rfl, hb, heap_setCell_same w g i cur _ u hg, hnc, hcm, by simpa using hcs, ?_⟩
    rw [Array.toList_setIfInBounds, ← ht, List.take_set]

/-- A row that an outer row holds is replaced by another, in its place. -/
theorem RefIn.swap {w : World} {q : Nat} {s s' : RSt} {vf : Nat → Value} {uf : Nat → List Value} (h : RefIn w q s vf uf) (f : Nat) (hf : f < 4) (hf2 : f ≠ 2) (i : Nat) (hi : i < (uf f).length) (u : Value) (h1 : u.oneCell' = true) (zs : List Int) (hr : RowAt w u zs)
    (hoff : ∀ b, u.ownBlock = some b → b ≠ q ∧ (∀ j, j < 4 → (vf j).ownBlock ≠ some b) ∧ b < w.heap.size)
    (hs : s'.rf f = (s.rf f).set i zs) (hoth : ∀ j, j < 4 → j ≠ f → j ≠ 2 → s'.rf j = s.rf j) (hl2 : s'.ats = s.ats) (hn : s'.ops = s.ops ∧ s'.fuse = s.fuse ∧ s'.dead = s.dead) (g c : Nat) (hg : vf f = .slice (some ⟨g, 0, none⟩) (uf f).length c) :
    RefIn (w.setCell ⟨g, i, none⟩ u) q s' vf (upd uf f ((uf f).set i u)) := by
  have hrow := h.row f hf hf2
  have hgb : (vf f).ownBlock = some g := by rw [hg]; rfl
  have hset : ∀ b, b ≠ g → (w.setCell ⟨g, i, none⟩ u).heap[b]? = w.heap[b]? := fun b hb => Below.heap_setCell _ _ _ _ hb
  have hqg : q ≠ g := fun e => h.no f hf (by rw [hgb, e])
  have hsize : (w.setCell ⟨g, i, none⟩ u).heap.size = w.heap.size := by simp [World.setCell]
  have hin : ∀ j, j < 4 → ∀ b ∈ (uf j).filterMap Value.ownBlock, b ≠ g := fun j hj b hb e => (h.off j hj b hb).2 f hf (by rw [hgb, e])
  have hmem : ∀ b ∈ ((uf f).set i u).filterMap Value.ownBlock, b ∈ (uf f).filterMap Value.ownBlock ∨ u.ownBlock = some b := fun b hb => by
    obtain ⟨x, hx, e⟩ := List.mem_filterMap.1 hb
    rcases List.mem_or_eq_of_mem_set hx with hx | hx
    · exact .inl (List.mem_filterMap.2 ⟨x, hx, e⟩)
    · subst hx; exact .inr e
  refine ⟨?_, fun j hj h2 => ?_, ?_, ?_, h.apart, h.no, fun j hj b hb => ?_, fun j hj b hb => ?_⟩
  · rw [hset q hqg, h.blk]
    simp [rcells, hn.1, hn.2.1, hn.2.2]
  · by_cases e : j = f
    · subst e
      rw [upd_same, hs]
      have hw := hrow.own
      rw [hg] at hw
      refine ⟨by rw [hg, List.length_set]; exact own_set hw i u, by simp [hrow.len], fun k hk => ?_⟩
      have hk2 : k < (uf j).length := by simpa using hk
      have hkeep : ∀ (x : Value) (ys : List Int), RowAt w x ys → (∀ b, x.ownBlock = some b → b ≠ g) → RowAt (w.setCell ⟨g, i, none⟩ u) x ys := fun x ys hx hb => by
        obtain ⟨a1, cap, e, r1, r2, r3, r4, r5⟩ := hx
        refine ⟨a1, cap, e, r1, r2, r3, r4, fun ad had m y hy => ?_⟩
        rw [World.cell?_of_block (w := w) (a := ad.add m) (by rw [Addr.add_block]; exact hset _ (hb _ (by rw [e, had]; rfl)))]
        exact r5 ad had m y hy
      by_cases e : k = i
      · subst e
        rw [List.getElem_set_self]
        have e2 : ((s.rf j).set k zs).getD k [] = zs := by
          rw [List.getD_eq_getElem?_getD, List.getElem?_set_self (by rw [← hrow.len]; exact hk2)]; rfl
        rw [e2]
        exact hkeep u zs hr (fun b hb e3 => (hoff b hb).2.1 j hj (by rw [hgb, e3]))
      · have e' : i ≠ k := fun h => e h.symm
        rw [List.getElem_set_ne e']
        have e2 : ((s.rf j).set i zs).getD k [] = (s.rf j).getD k [] := by
          rw [List.getD_eq_getElem?_getD, List.getElem?_set_ne e', ← List.getD_eq_getElem?_getD]
        rw [e2]
        exact hkeep _ _ (hrow.rows k hk2) (fun b hb => hin j hj b (List.mem_filterMap.2 ⟨_, List.getElem_mem hk2, hb⟩))
    · rw [upd_ne _ _ e, hoth j hj e h2]
      exact (h.row j hj h2).same (fun b e2 => hset b (fun e3 => h.apart j f hj hf e b e2 (by rw [hgb, e3]))) (fun b e2 => hset b (hin j hj b e2))
  · rw [hl2]
    exact own_same h.at_ (fun b e2 => hset b (fun e3 => h.apart 2 f (by omega) hf (fun e => hf2 e.symm) b e2 (by rw [hgb, e3])))
  · rw [upd_ne _ _ (fun e => hf2 e.symm)]
    exact h.u2
  · by_cases e : j = f
    · subst e
      rw [upd_same] at hb
      rcases hmem b hb with hb | hb
      · exact h.off j hj b hb
      · exact ⟨(hoff b hb).1, (hoff b hb).2.1⟩
    · rw [upd_ne _ _ e] at hb
      exact h.off j hj b hb
  · rw [hsize]
    by_cases e : j = f
    · subst e
      rw [upd_same] at hb
      rcases hmem b hb with hb | hb
      · exact h.lt j hj b hb
      · exact (hoff b hb).2.2
    · rw [upd_ne _ _ e] at hb
      exact h.lt j hj b hb

end Go.Proofs.Ytiljhjegfklgmaa


/- The reference's disk: Write. -/
namespace Go.Proofs.Ytiljhjegfklgmaa
open Go.RowKit

theorem rwrite_no (w : World) (q : Nat) (s : DS) (vf : Nat → Value) (uf : Nat → List Value) (h : RefIn w q s.ref vf uf) (k : Int) (bv : Value) (zs : List Int) (hb : RowAt w bv zs) (ht : ¬ s.takes k zs.length) :
    Calls Try.prog 8 #[.pointer (some ⟨q, 0, none⟩), .int .i64 k, bv] w fun e w' => e = .returned (.int .i64 (writeE s k zs.length)) ∧ w = w' := by
  have c0 := h.c0
  have c6 : w.cell? ⟨q, 6, none⟩ = some (.bool s.dead) := h.c6
  have hlen : (uf 0).length = s.cnt := by rw [h.now.len]; simp
  obtain ⟨a, c, e0⟩ := ownsRow_slice h.now.own; rw [e0] at c0
  clear h
  obtain ⟨ba, bc, rfl, _⟩ := hb
  by_cases hd : s.dead = true
  · have e1 : writeE s k zs.length = 14 := by simp only [writeE, if_neg ht, hd]; rfl
    rw [e1]
    rw [hd] at c6
    go_enter Try.func8, Try.ntmps8
    go_wp2_with fail
    go_ret
    exact ⟨rfl, rfl⟩
  · have hd' : s.dead = false := by simpa using hd
    have e1 : writeE s k zs.length = 1 := by simp only [writeE, if_neg ht, hd']; rfl
    rw [e1]
    rw [hd'] at c6
    have ht' : 0 ≤ k → k < s.cnt → zs.length ≠ 64 := fun h1 h2 h3 => ht ⟨hd', h1, h2, h3⟩
    clear ht
    by_cases hk0 : 0 ≤ k
    · by_cases hk1 : k < ((uf 0).length : Int)
      · have hz2 : ¬ zs.length = 64 := ht' hk0 (by omega)
        have hz3 : ¬ (zs.length : Int) = 64 := by omega
        have hz : ((zs.length : Int) != 64) = true := bne_iff_ne.2 hz3
        have HT := hid ht'
        clear ht'
        go_enter Try.func8, Try.ntmps8
        go_wp2_with fail
        go_ret
        exact ⟨rfl, rfl⟩
      · have HT := hid ht'
        clear ht'
        go_enter Try.func8, Try.ntmps8
        go_wp2_with fail
        go_ret
        exact ⟨rfl, rfl⟩
    · have HT := hid ht'
      clear ht'
      go_enter Try.func8, Try.ntmps8
      go_wp2_with fail
      go_ret
      exact ⟨rfl, rfl⟩

end Go.Proofs.Ytiljhjegfklgmaa


/- (kit/KitB over the texts of disk.) A drawn region in which one of the last operations breaks what the first ones read: a load may be taken first where whatever may come up before it keeps what it reads. -/
namespace Go.Proofs.Ytiljhjegfklgmaa
open Go.RowKit Go.Shelf

section
variable {P : Program} {ops : Array Oper} {Q : Exit → Act → World → Prop} {md : Region.Mode} {S : World → Prop} {late : List Nat}

/-- Whatever order is picked: S holds behind every operation that is carried out, but those that are late. -/
def wpAnyT (P : Program) (md : Region.Mode) (ops : Array Oper) (Q : Exit → Act → World → Prop) (S : World → Prop) (late : List Nat) : Nat → Array Bool → Act → World → Prop
  | 0, listed, a, w => Region.ready md ops listed = [] ∧ Q .normal a w
  | fuel + 1, listed, a, w =>
    (Region.ready md ops listed = [] → Q .normal a w) ∧
    ∀ i ∈ Region.ready md ops listed, wpOp P ops Q i (fun a' w' => (late.contains i = true ∨ S w') ∧ wpAnyT P md ops Q S late fuel (listed.setIfInBounds i true) a' w') a w

theorem wpAny_of_late : ∀ (fuel : Nat) (listed : Array Bool) (a : Act) (w : World), wpAnyT P md ops Q S late fuel listed a w → wpAny P md ops Q fuel listed a w
  | 0, _, _, _, h => h
  | fuel + 1, _, _, _, h => ⟨h.1, fun i hi => wpOp_mono (fun a' w' h' => wpAny_of_late fuel _ a' w' h'.2) (h.2 i hi)⟩

/-- All that may come up without number i. -/
def spread (md : Region.Mode) (ops : Array Oper) (i : Nat) : Nat → Array Bool → Array Bool
  | 0, l => l
  | n + 1, l => spread md ops i n ((Region.ready md ops l).foldl (fun l j => if j == i then l else l.setIfInBounds j true) l)

def lateOk (md : Region.Mode) (ops : Array Oper) (listed : Array Bool) (i : Nat) (late : List Nat) (L : Array Bool) : Bool :=
  (L.getD i true == false) && ((Region.ready md ops L).all fun j => j == i) && ((List.range listed.size).all fun j => !listed.getD j false || L.getD j false) && (late.all fun j => L.getD j true == false)

theorem ready_le {l L : Array Bool} (hle : ∀ j, l.getD j false = true → L.getD j false = true) {j : Nat} (hj : j ∈ Region.ready md ops l) (hL : L.getD j true = false) : j ∈ Region.ready md ops L := by
  obtain ⟨_, o, ho, ha⟩ := mem_ready.1 hj
  exact mem_ready.2 ⟨hL, o, ho, fun e he hb => hle _ (ha e he hb)⟩

theorem getD_not {L : Array Bool} {j : Nat} (h : ¬ L.getD j true = false) (hj : j < L.size) : L.getD j false = true := by
  simp [hj] at h ⊢
  exact h

theorem wpAnyT_first {i : Nat} {oi : Oper} {v : Value} (hi : ops[i]? = some oi) (hsel : ∀ (j : Nat) (o : Oper) cs b, ops[j]? = some o → o.op ≠ .select cs b)
    (hQ : ∀ c a w, Q (.panic c) (a.put oi.dst v) w → Q (.panic c) a w) (L : Array Bool) (hL3 : ∀ j, j ∈ Region.ready md ops L → j = i) (hL4 : ∀ j, late.contains j = true → L.getD j true = false) :
    ∀ (fuel : Nat) (listed : Array Bool) (a : Act) (w : World), listed.size = L.size → (∀ j, listed.getD j false = true → L.getD j false = true) →
      (∀ j oj, ops[j]? = some oj → j ≠ i → listed.getD j true = false → (∀ e ∈ oj.after, Region.binds md e = true → e.on ≠ i) → oi.apart ops oj = true) →
      i ∈ Region.ready md ops listed → YieldsIf P ops S oi v a → S w →
      wpAnyT P md ops Q S late fuel (listed.setIfInBounds i true) (a.put oi.dst v) w → wpAnyT P md ops Q S late (fuel + 1) listed a w := by
  intro fuel
  induction fuel with
  | zero =>
    intro listed a w _ _ hfree hr hy hS H
    refine ⟨fun h => (by rw [h] at hr; cases hr), fun j hj => ?_⟩
    by_cases hji : j = i
    · subst hji; exact hy.wpOp hi hS ⟨Or.inr hS, H⟩
    · have := ready_mono hj hji
      rw [H.1] at this
      cases this
  | succ fuel ih =>
    intro listed a w hz hle hfree hr hy hS H
    refine ⟨fun h => (by rw [h] at hr; cases hr), fun j hj => ?_⟩
    by_cases hji : j = i
    · subst hji; exact hy.wpOp hi hS ⟨Or.inr hS, H⟩
    · have h1 := H.2 j (ready_mono hj hji)
      obtain ⟨hjun, oj, hoj, hall⟩ := mem_ready.1 hj
      have hnL : ¬ L.getD j true = false := fun h => hji (hL3 j (ready_le hle hj h))
      have hjs : j < L.size := by
        rw [← hz]
        rcases Nat.lt_or_ge j listed.size with h | h
        · exact h
        · simp [h] at hjun
      have hnl : ¬ late.contains j = true := fun h => hnL (hL4 j h)
      have hnot : ∀ e ∈ oj.after, Region.binds md e = true → e.on ≠ i := fun e he hb heq => by
        have h1 := hall e he hb
        have h0 := (mem_ready.1 hr).1
        rw [heq] at h1
        rcases Nat.lt_or_ge i listed.size with h' | h'
        · simp [h'] at h0 h1; rw [h0] at h1; cases h1
        · simp [Array.getElem?_eq_none h'] at h1
      have h2 := wpOp_putIf hoj (hfree j oj hoj hji hjun hnot) (fun cs b => hsel i oi cs b hi) (fun cs b => hsel j oj cs b hoj) hQ hy h1
      have hfree' : ∀ k ok, ops[k]? = some ok → k ≠ i → (listed.setIfInBounds j true).getD k true = false →
          (∀ e ∈ ok.after, Region.binds md e = true → e.on ≠ i) → oi.apart ops ok = true := fun k ok hk hki hun hno => by
        refine hfree k ok hk hki ?_ hno
        by_cases hjk : j = k
        · subst hjk; exact hjun
        · rw [getD_set_ne true hjk] at hun; exact hun
      have hle' : ∀ k, (listed.setIfInBounds j true).getD k false = true → L.getD k false = true := fun k hk => by
        by_cases hjk : j = k
        · subst hjk; exact getD_not hnL hjs
        · rw [getD_set_ne false hjk] at hk; exact hle k hk
      refine wpOp_mono (fun a' w' h3 => ?_) h2
      have hS' : S w' := h3.2.1.resolve_left hnl
      refine ⟨Or.inr hS', ih (listed.setIfInBounds j true) a' w' (by simpa using hz) hle' hfree' (ready_mono hr (Ne.symm hji)) h3.1 hS' ?_⟩
      rw [Array.setIfInBounds_comm _ _ hji]
      exact h3.2.2

theorem wpAnyT_take {i : Nat} {oi : Oper} {v : Value} {fuel : Nat} {listed : Array Bool} {a : Act} {w : World} (hi : ops[i]? = some oi)
    (hs : Region.noSelect ops = true) (hf : Region.free md ops listed i = true) (hr : (Region.ready md ops listed).contains i = true) (hl : lateOk md ops listed i late (spread md ops i ops.size listed) = true) (hz : listed.size = (spread md ops i ops.size listed).size)
    (hQ : ∀ c a w, Q (.panic c) (a.put oi.dst v) w → Q (.panic c) a w) (hy : YieldsIf P ops S oi v a) (hS : S w)
    (h : wpAnyT P md ops Q S late fuel (listed.setIfInBounds i true) (a.put oi.dst v) w) : wpAnyT P md ops Q S late (fuel + 1) listed a w := by
  simp only [lateOk, Bool.and_eq_true, List.all_eq_true, beq_iff_eq, List.mem_range] at hl
  obtain ⟨⟨⟨_, h3⟩, h1⟩, h4⟩ := hl
  refine wpAnyT_first hi (Region.noSelect_spec hs) hQ (spread md ops i ops.size listed) h3 (fun j hj => h4 j (by simpa using hj)) fuel listed a w hz (fun j hj => ?_) (Region.free_spec hi hf) (by simpa using hr) hy hS h
  have hjs : j < listed.size := by
    rcases Nat.lt_or_ge j listed.size with h | h
    · exact h
    · simp [h] at hj
  have := h1 j hjs
  simp only [Bool.or_eq_true, Bool.not_eq_true'] at this
  rcases this with h | h
  · rw [hj] at h; cases h
  · exact h

theorem wpAnyT_done {listed : Array Bool} {a : Act} {w : World} (hr : Region.ready md ops listed = []) (h : Q .normal a w) :
    ∀ fuel, wpAnyT P md ops Q S late fuel listed a w
  | 0 => ⟨hr, h⟩
  | _ + 1 => ⟨fun _ => h, by rw [hr]; simp⟩

theorem wpAnyT_all {rs : List Nat} {fuel : Nat} {listed : Array Bool} {a : Act} {w : World} (hr : Region.ready md ops listed = rs) (hne : rs ≠ [])
    (h : ∀ i ∈ rs, wpOp P ops Q i (fun a' w' => (late.contains i = true ∨ S w') ∧ wpAnyT P md ops Q S late fuel (listed.setIfInBounds i true) a' w') a w) : wpAnyT P md ops Q S late (fuel + 1) listed a w :=
  ⟨fun h0 => absurd (hr ▸ h0) hne, hr ▸ h⟩

theorem wp_storedD {o : Oper} {a : Act} {w w' : World} {K : Act → World → Prop} (hrun : (execOp a.eval o).run P w = .ok .skip w') (h : K (a.put o.dst undef) w') : o.wp P a w K Q := by
  unfold Oper.wp
  rw [hrun]
  exact h
theorem held_takeWD {S : World → Prop} {i : Nat} {oi : Oper} {v : Value} {fuel : Nat} {listed : Array Bool} {a : Act} {w : World} (hi : ops.toList[i]? = some oi)
    (hs : Region.noSelect ops = true) (hf : Region.free md ops listed i = true) (hr : (Region.ready md ops listed).contains i = true)
    (hQ : ∀ c a w, Q (.panic c) (a.put oi.dst v) w → Q (.panic c) a w) (hw : Region.wanted oi (yielded ops a.tmps) = true) (hy : ∀ w, S w → (execOp a.eval oi).run P w = .ok (.value v) w) (hS : S w)
    (h : wpAnyH P md ops Q S fuel (listed.setIfInBounds i true) (a.put oi.dst v) w) : wpAnyH P md ops Q S (fuel + 1) listed a w :=
  wpAnyH_take (by simpa using hi) hs hf hr hQ (Or.inl ⟨hw, hy⟩) hS h
theorem held_skipD {S : World → Prop} {i : Nat} {oi : Oper} {fuel : Nat} {listed : Array Bool} {a : Act} {w : World} (hi : ops.toList[i]? = some oi)
    (hs : Region.noSelect ops = true) (hf : Region.free md ops listed i = true) (hr : (Region.ready md ops listed).contains i = true)
    (hQ : ∀ c a w, Q (.panic c) (a.put oi.dst undef) w → Q (.panic c) a w) (hw : Region.wanted oi (yielded ops a.tmps) = false) (hS : S w)
    (h : wpAnyH P md ops Q S fuel (listed.setIfInBounds i true) (a.put oi.dst undef) w) : wpAnyH P md ops Q S (fuel + 1) listed a w :=
  wpAnyH_take (by simpa using hi) hs hf hr hQ (Or.inr ⟨hw, rfl⟩) hS h
theorem held_doWD {S : World → Prop} {i : Nat} {o : Oper} {fuel : Nat} {listed : Array Bool} {a : Act} {w : World} (hr : Region.ready md ops listed = [i]) (ho' : ops.toList[i]? = some o) (hw : Region.wanted o (yielded ops a.tmps) = true)
    (h : o.wp P a w (fun a' w' => S w' ∧ wpAnyH P md ops Q S fuel (listed.setIfInBounds i true) a' w') Q) : wpAnyH P md ops Q S (fuel + 1) listed a w := by
  have ho : ops[i]? = some o := by simpa using ho'
  refine wpAnyH_all hr (by simp) fun j hj => ?_
  obtain rfl : j = i := by simpa using hj
  unfold wpOp
  simp only [ho, hw, if_true]
  exact Or.inl h

theorem late_take {i : Nat} {oi : Oper} {v : Value} {fuel : Nat} {listed : Array Bool} {a : Act} {w : World} (hi : ops.toList[i]? = some oi)
    (hs : Region.noSelect ops = true) (hf : Region.free md ops listed i = true) (hr : (Region.ready md ops listed).contains i = true) (hl : lateOk md ops listed i late (spread md ops i ops.size listed) = true) (hz : listed.size = (spread md ops i ops.size listed).size)
    (hQ : ∀ c a w, Q (.panic c) (a.put oi.dst v) w → Q (.panic c) a w) (hg : oi.guard = none) (hy : ∀ w, S w → (execOp a.eval oi).run P w = .ok (.value v) w) (hS : S w)
    (h : wpAnyT P md ops Q S late fuel (listed.setIfInBounds i true) (a.put oi.dst v) w) : wpAnyT P md ops Q S late (fuel + 1) listed a w :=
  wpAnyT_take (by simpa using hi) hs hf hr hl hz hQ (Or.inl ⟨by simp [Region.wanted, hg], hy⟩) hS h
theorem late_takeW {i : Nat} {oi : Oper} {v : Value} {fuel : Nat} {listed : Array Bool} {a : Act} {w : World} (hi : ops.toList[i]? = some oi)
    (hs : Region.noSelect ops = true) (hf : Region.free md ops listed i = true) (hr : (Region.ready md ops listed).contains i = true) (hl : lateOk md ops listed i late (spread md ops i ops.size listed) = true) (hz : listed.size = (spread md ops i ops.size listed).size)
    (hQ : ∀ c a w, Q (.panic c) (a.put oi.dst v) w → Q (.panic c) a w) (hw : Region.wanted oi (yielded ops a.tmps) = true) (hy : ∀ w, S w → (execOp a.eval oi).run P w = .ok (.value v) w) (hS : S w)
    (h : wpAnyT P md ops Q S late fuel (listed.setIfInBounds i true) (a.put oi.dst v) w) : wpAnyT P md ops Q S late (fuel + 1) listed a w :=
  wpAnyT_take (by simpa using hi) hs hf hr hl hz hQ (Or.inl ⟨hw, hy⟩) hS h
theorem late_skip {i : Nat} {oi : Oper} {fuel : Nat} {listed : Array Bool} {a : Act} {w : World} (hi : ops.toList[i]? = some oi)
    (hs : Region.noSelect ops = true) (hf : Region.free md ops listed i = true) (hr : (Region.ready md ops listed).contains i = true) (hl : lateOk md ops listed i late (spread md ops i ops.size listed) = true) (hz : listed.size = (spread md ops i ops.size listed).size)
    (hQ : ∀ c a w, Q (.panic c) (a.put oi.dst undef) w → Q (.panic c) a w) (hw : Region.wanted oi (yielded ops a.tmps) = false) (hS : S w)
    (h : wpAnyT P md ops Q S late fuel (listed.setIfInBounds i true) (a.put oi.dst undef) w) : wpAnyT P md ops Q S late (fuel + 1) listed a w :=
  wpAnyT_take (by simpa using hi) hs hf hr hl hz hQ (Or.inr ⟨hw, rfl⟩) hS h
theorem late_do {i : Nat} {o : Oper} {fuel : Nat} {listed : Array Bool} {a : Act} {w : World} (hr : Region.ready md ops listed = [i]) (ho' : ops.toList[i]? = some o) (hg : o.guard = none)
    (h : o.wp P a w (fun a' w' => (late.contains i = true ∨ S w') ∧ wpAnyT P md ops Q S late fuel (listed.setIfInBounds i true) a' w') Q) : wpAnyT P md ops Q S late (fuel + 1) listed a w := by
  have ho : ops[i]? = some o := by simpa using ho'
  have hw : Region.wanted o (yielded ops a.tmps) = true := by simp [Region.wanted, hg]
  refine wpAnyT_all hr (by simp) fun j hj => ?_
  obtain rfl : j = i := by simpa using hj
  unfold wpOp
  simp only [ho, hw, if_true]
  exact Or.inl h
theorem late_doW {i : Nat} {o : Oper} {fuel : Nat} {listed : Array Bool} {a : Act} {w : World} (hr : Region.ready md ops listed = [i]) (ho' : ops.toList[i]? = some o) (hw : Region.wanted o (yielded ops a.tmps) = true)
    (h : o.wp P a w (fun a' w' => (late.contains i = true ∨ S w') ∧ wpAnyT P md ops Q S late fuel (listed.setIfInBounds i true) a' w') Q) : wpAnyT P md ops Q S late (fuel + 1) listed a w := by
  have ho : ops[i]? = some o := by simpa using ho'
  refine wpAnyT_all hr (by simp) fun j hj => ?_
  obtain rfl : j = i := by simpa using hj
  unfold wpOp
  simp only [ho, hw, if_true]
  exact Or.inl h
end
end Go.Proofs.Ytiljhjegfklgmaa


/- (kit/KitE over the texts of disk.) Structs in new memory: laid, stored, loaded, as single operations. (For every layer.) -/
namespace Go.Proofs.Ytiljhjegfklgmaa
open Go.RowKit

theorem zero_of {t : TypeId} {z : Value} {n : Nat} (hi : (Try.prog.info? t).map (fun i => (i.zero, i.size)) = some (some z, n)) (w : World) : (zeroValue t).run Try.prog w = .ok z w := by
  cases hq : Try.prog.info? t with
  | none => simp [hq] at hi
  | some i => simp [hq] at hi; simp [zeroValue, typeInfo, hq, hi.1]
theorem size_of' {t : TypeId} {z : Value} {n : Nat} (hi : (Try.prog.info? t).map (fun i => (i.zero, i.size)) = some (some z, n)) : (Try.prog.info? t).map (·.size) = some n := by
  cases hq : Try.prog.info? t with
  | none => simp [hq] at hi
  | some i => simp [hq] at hi; simp [hi.2]

theorem exec_alloc {ρ : Operand → Value} {o : Oper} {w : World} (t : TypeId) (zs : Array Value) {n : Nat} (hi : (Try.prog.info? t).map (fun i => (i.zero, i.size)) = some (some (.agg zs), n)) (ho : o.op = .alloc t) :
    (execOp ρ o).run Try.prog w = .ok (.value (.pointer (some ⟨w.heap.size, 0, none⟩))) (w.alloc (.cells zs t)) := by
  have e : (Value.agg zs).cells = zs := rfl
  simp only [execOp, ho, Instr.alloc, newVar, newRow, Sem.run_bind, zero_of hi, e, Result.andThen_ok, Sem.run_pure, run_newObj_alloc]
theorem exec_box {ρ : Operand → Value} {o : Oper} {w : World} (t : TypeId) (x : Operand) (zs : Array Value) (hx : ρ x = .agg zs) (ho : o.op = .box t x) :
    (execOp ρ o).run Try.prog w = .ok (.value (.pointer (some ⟨w.heap.size, 0, none⟩))) (w.alloc (.cells zs t)) := by
  have e : (Value.agg zs).cells = zs := rfl
  simp [execOp, ho, Instr.box, newVar, newRow, hx, e, Result.andThen]
theorem exec_storeNew {ρ : Operand → Value} {o : Oper} {w : World} (t : TypeId) (x y : Operand) (ho : o.op = .store t x y) (W : World) (c c' : Array Value) (hw : w = W.alloc (.cells c t)) (hx : ρ x = .pointer (some ⟨W.heap.size, 0, none⟩))
    (hy : ρ y = .agg c') {z : Value} (hi : (Try.prog.info? t).map (fun i => (i.zero, i.size)) = some (some z, c'.size)) (hs : c.size = c'.size) (h1 : c'.all (·.oneCell') = true) :
    (execOp ρ o).run Try.prog w = .ok .skip (W.alloc (.cells c' t)) := by
  subst hw
  unfold execOp
  simp only [ho, hx, hy, run_storeAt_new W t c c' (size_of' hi) hs h1, Sem.run_bind, Result.andThen_ok, Sem.run_pure]
theorem exec_storeMid {ρ : Operand → Value} {o : Oper} {w : World} (t : TypeId) (x y : Operand) (ho : o.op = .store t x y) (b off : Nat) (cells : Array Value) (hx : ρ x = .pointer (some ⟨b, off, none⟩))
    (hy : ρ y = .agg cells) (ht : w.there b off cells.size) {z : Value} (hi : (Try.prog.info? t).map (fun i => (i.zero, i.size)) = some (some z, cells.size)) (h1 : cells.all (·.oneCell') = true) :
    (execOp ρ o).run Try.prog w = .ok .skip (w.setCells b off cells.toList) := by
  unfold execOp
  simp only [ho, hx, hy, run_storeAt_mid w b off t cells ht (size_of' hi) h1, Sem.run_bind, Result.andThen_ok, Sem.run_pure]

section
variable {ops : Array Oper} {rest : List Oper} {o : Oper} {a : Act} {w : World} {Q : Exit → Act → World → Prop}
theorem wpList_noval (hgd : o.guard = none) (w' : World) (hrun : (execOp a.eval o).run Try.prog w = .ok .skip w') (h : wpList Try.prog ops Q rest (a.put o.dst undef) w') : wpList Try.prog ops Q (o :: rest) a w := by
  refine wpList_plain hgd fun K hK => ?_
  unfold Oper.wp
  rw [hrun]
  exact hK _ _ h
/-- A guarded one that is wanted. -/
theorem wpList_isW (hw : Region.wanted o (yielded ops a.tmps) = true) (v : Value) (w' : World) (hrun : (execOp a.eval o).run Try.prog w = .ok (.value v) w') (h : wpList Try.prog ops Q rest (a.put o.dst v) w') : wpList Try.prog ops Q (o :: rest) a w := by
  unfold wpList
  rw [if_pos hw]
  refine Or.inl ?_
  unfold Oper.wp
  rw [hrun, Oper.upon_value]
  exact h
end

/-- A struct is read: its cells, one by one. -/
theorem load_row {t : TypeId} {d : TypeDesc} {w : World} {b o : Nat} (cs : List Value) (hu : Try.prog.underlying t = some d) (hd : d.isRow = true) {z : Value} (hi : (Try.prog.info? t).map (fun i => (i.zero, i.size)) = some (some z, cs.length))
    (hc : ∀ j v, cs[j]? = some v → w.cell? ⟨b, o + j, none⟩ = some v) : (Instr.loadAt t (.pointer (some ⟨b, o, none⟩))).run Try.prog w = .ok (.agg cs.toArray) w :=
  run_loadAt_mid w b o t cs d hc hu hd (size_of' hi)

theorem cells3 {w : World} {b o : Nat} {x0 x1 x2 : Value} (c0 : w.cell? ⟨b, o, none⟩ = some x0) (c1 : w.cell? ⟨b, o + 1, none⟩ = some x1) (c2 : w.cell? ⟨b, o + 2, none⟩ = some x2) :
    ∀ j v, [x0, x1, x2][j]? = some v → w.cell? ⟨b, o + j, none⟩ = some v := fun j v hv => by
  match j, hv with
  | 0, hv => simp at hv; subst hv; exact c0
  | 1, hv => simp at hv; subst hv; exact c1
  | 2, hv => simp at hv; subst hv; exact c2
theorem cells4 {w : World} {b o : Nat} {x0 x1 x2 x3 : Value} (c0 : w.cell? ⟨b, o, none⟩ = some x0) (c1 : w.cell? ⟨b, o + 1, none⟩ = some x1) (c2 : w.cell? ⟨b, o + 2, none⟩ = some x2) (c3 : w.cell? ⟨b, o + 3, none⟩ = some x3) :
    ∀ j v, [x0, x1, x2, x3][j]? = some v → w.cell? ⟨b, o + j, none⟩ = some v := fun j v hv => by
  match j, hv with
  | 0, hv => simp at hv; subst hv; exact c0
  | 1, hv => simp at hv; subst hv; exact c1
  | 2, hv => simp at hv; subst hv; exact c2
  | 3, hv => simp at hv; subst hv; exact c3
theorem block_cells3 {W : World} {b : Nat} {x0 x1 x2 : Value} {T : TypeId} (h : W.heap[b]? = some (.cells #[x0, x1, x2] T (0, 0))) :
    W.cell? ⟨b, 0, none⟩ = some x0 ∧ W.cell? ⟨b, 1, none⟩ = some x1 ∧ W.cell? ⟨b, 2, none⟩ = some x2 := by
  simp [World.cell?, h]
theorem block_cells4 {W : World} {b : Nat} {x0 x1 x2 x3 : Value} {T : TypeId} (h : W.heap[b]? = some (.cells #[x0, x1, x2, x3] T (0, 0))) :
    W.cell? ⟨b, 0, none⟩ = some x0 ∧ W.cell? ⟨b, 1, none⟩ = some x1 ∧ W.cell? ⟨b, 2, none⟩ = some x2 ∧ W.cell? ⟨b, 3, none⟩ = some x3 := by
  simp [World.cell?, h]
end Go.Proofs.Ytiljhjegfklgmaa
