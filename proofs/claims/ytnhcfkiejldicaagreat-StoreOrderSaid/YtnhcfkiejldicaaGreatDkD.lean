/- A disk in memory; its small functions. -/
import Derived.Test.YtnhcfkiejldicaaGreatDkC
import Derived.Deep.RegionHeld3
namespace Go.Proofs.YtnhcfkiejldicaaGreat
open Go.RowKit

/-- A disk's block. -/
def dcells (s : DS) (m : Nat) (lv : Value) : Array Value := #[.int .i64 s.cnt, .map (some m), lv, .int .i64 s.fuse, .int .i64 s.ops, .bool s.dead]
def lcells (l : List (Nat × Row)) : List Value := l.flatMap fun x => .int .i64 x.1 :: x.2.cells

structure DiskIn (w : World) (p m : Nat) (lv : Value) (n : Nat) (s : DS) : Prop where
  blk : w.heap[p]? = some (.cells (dcells s m lv) 79 (0, 0))
  map : MapIs w m n s.cnt fun i => (s.now i, s.las i)
  row : w.ownsRow 0 114 65 lv s.loose.length (lcells s.loose)

structure DS.Ok (s : DS) (k : Nat) : Prop where
  lo : 2 ≤ s.cnt
  hi : s.cnt ≤ 4160
  fz : -9223372036854775808 ≤ s.fuse ∧ s.fuse ≤ 9223372036854775807
  op : 0 ≤ s.ops ∧ s.ops ≤ k
  at_ : ∀ x ∈ s.loose, x.1 < s.cnt
  eqs : ∀ i, (∀ x ∈ s.loose, x.1 ≠ i) → s.las i = s.now i

def foot (p m : Nat) (lv : Value) : List Nat := p :: m :: lv.ownBlock.toList

/-- A disk: at block p, with the blocks F, in the state s; k bounds what its map and its row hold. -/
def DiskAt (w : World) (p : Nat) (s : DS) (F : List Nat) (k : Nat) : Prop :=
  s.Ok k ∧ ∃ m lv n, DiskIn w p m lv n s ∧ F = foot p m lv ∧ n + s.loose.length ≤ k

section
variable {w : World} {p m n : Nat} {lv : Value} {s : DS}
theorem DiskIn.c0 (h : DiskIn w p m lv n s) : w.cell? ⟨p, 0, none⟩ = some (.int .i64 s.cnt) := by simp [World.cell?, h.blk, dcells]
theorem DiskIn.c1 (h : DiskIn w p m lv n s) : w.cell? ⟨p, 1, none⟩ = some (.map (some m)) := by simp [World.cell?, h.blk, dcells]
theorem DiskIn.c2 (h : DiskIn w p m lv n s) : w.cell? ⟨p, 2, none⟩ = some lv := by simp [World.cell?, h.blk, dcells]
theorem DiskIn.c3 (h : DiskIn w p m lv n s) : w.cell? ⟨p, 3, none⟩ = some (.int .i64 s.fuse) := by simp [World.cell?, h.blk, dcells]
theorem DiskIn.c4 (h : DiskIn w p m lv n s) : w.cell? ⟨p, 4, none⟩ = some (.int .i64 s.ops) := by simp [World.cell?, h.blk, dcells]
theorem DiskIn.c5 (h : DiskIn w p m lv n s) : w.cell? ⟨p, 5, none⟩ = some (.bool s.dead) := by simp [World.cell?, h.blk, dcells]
theorem DiskIn.fr (h : DiskIn w p m lv n s) (i : Nat) : w.frozen? ⟨p, i, none⟩ = false := by simp [World.frozen?, h.blk]
theorem DiskIn.lt (h : DiskIn w p m lv n s) : p < w.heap.size := lt_of_block h.blk

theorem DiskIn.pm (h : DiskIn w p m lv n s) : m ≠ p := by
  rintro rfl
  obtain ⟨D, ⟨es, cl, h1, _⟩, _⟩ := h.map
  rw [h.blk] at h1
  cases h1
theorem DiskIn.pl (h : DiskIn w p m lv n s) : lv.ownBlock ≠ some p := by
  intro e
  rcases h.row.2 with ⟨rfl, _⟩ | ⟨g, cap, cur, rfl, _, hg, _⟩
  · cases e
  · injection e with e
    simp only at e
    subst e
    rw [h.blk] at hg
    injection hg with hg
    injection hg with _ hg
    exact absurd hg (by decide)
theorem DiskIn.ml (h : DiskIn w p m lv n s) : lv.ownBlock ≠ some m := by
  intro e
  obtain ⟨D, ⟨es, cl, h1, _⟩, _⟩ := h.map
  rcases h.row.2 with ⟨rfl, _⟩ | ⟨g, cap, cur, rfl, _, hg, _⟩
  · cases e
  · injection e with e
    simp only at e
    subst e
    rw [h1] at hg
    cases hg

theorem DiskIn.keep {w' : World} {S : List Nat} (h : DiskIn w p m lv n s) (k : Keeps S w w') (hd : ∀ b ∈ foot p m lv, b ∉ S) : DiskIn w' p m lv n s := by
  refine ⟨?_, h.map.keep k (hd m (by simp [foot])), ?_⟩
  · rw [k.block p h.lt (hd p (by simp [foot]))]; exact h.blk
  · rcases h.row with ⟨h1, h2⟩
    refine ⟨h1, ?_⟩
    rcases h2 with h2 | ⟨g, cap, cur, rfl, a1, a2, a3⟩
    · exact Or.inl h2
    · exact Or.inr ⟨g, cap, cur, rfl, a1, by rw [k.block g (lt_of_block a2) (hd g (by simp [foot, Value.ownBlock]))]; exact a2, a3⟩

theorem DiskAt.keep {w' : World} {S F : List Nat} {k : Nat} (h : DiskAt w p s F k) (kp : Keeps S w w') (hd : ∀ b ∈ F, b ∉ S) : DiskAt w' p s F k := by
  obtain ⟨ho, m, lv, n, hi, rfl, hk⟩ := h
  exact ⟨ho, m, lv, n, hi.keep kp hd, rfl, hk⟩

theorem DiskIn.foot_lt (h : DiskIn w p m lv n s) : ∀ b ∈ foot p m lv, b < w.heap.size := by
  intro b hb
  simp only [foot, List.mem_cons, Option.mem_toList] at hb
  rcases hb with rfl | rfl | hb
  · exact h.lt
  · exact h.map.lt
  · exact (h.row.lt b hb).2

theorem DiskAt.lt {F : List Nat} {k : Nat} (h : DiskAt w p s F k) : ∀ b ∈ F, b < w.heap.size := by
  obtain ⟨_, m, lv, n, hi, rfl, _⟩ := h
  exact hi.foot_lt
theorem DiskAt.mem {F : List Nat} {k : Nat} (h : DiskAt w p s F k) : p ∈ F := by
  obtain ⟨_, m, lv, n, hi, rfl, _⟩ := h
  simp [foot]
theorem DiskAt.mono {F : List Nat} {k k' : Nat} (h : DiskAt w p s F k) (hk : k ≤ k') : DiskAt w p s F k' := by
  obtain ⟨ho, m, lv, n, hi, rfl, h3⟩ := h
  exact ⟨⟨ho.lo, ho.hi, ho.fz, ⟨ho.op.1, by have := ho.op.2; omega⟩, ho.at_, ho.eqs⟩, m, lv, n, hi, rfl, by omega⟩

/-- One of the disk's own numbers is written. -/
theorem DiskIn.set {s' : DS} (h : DiskIn w p m lv n s) (i : Nat) (v : Value) (hv : (dcells s m lv).setIfInBounds i v = dcells s' m lv) (h1 : s'.cnt = s.cnt) (h2 : s'.now = s.now) (h3 : s'.las = s.las) (h4 : s'.loose = s.loose) :
    DiskIn (w.setCell ⟨p, i, none⟩ v) p m lv n s' := by
  refine ⟨?_, ?_, ?_⟩
  · rw [heap_setCell_same w p i _ _ v h.blk, hv]
  · rw [h1, h2, h3]
    exact h.map.block (Below.heap_setCell _ _ _ _ h.pm)
  · rw [h4]
    have := h.row
    refine ⟨this.1, ?_⟩
    rcases this.2 with h2 | ⟨g, cap, cur, rfl, a1, a2, a3⟩
    · exact Or.inl h2
    · refine Or.inr ⟨g, cap, cur, rfl, a1, ?_, a3⟩
      rw [Below.heap_setCell _ _ _ _ (fun e => h.pl (by simp only [Value.ownBlock]; rw [e]))]
      exact a2

end

theorem made_any (w : World) (p : Nat) (c : Nat) (hc : 0 < c) (h0 : w.cell? ⟨p, 0, none⟩ = some (.int .i64 c)) :
    Calls Tryz.prog 59 #[.pointer (some ⟨p, 0, none⟩)] w fun e w' => e = .returned (.bool true) ∧ w = w' := by
  have hc' : (0 : Int) < (c : Int) := by omega
  go_enter Tryz.func59, Tryz.ntmps59
  go_wp2_with fail
  go_ret
  exact ⟨by simp, rfl⟩

theorem well_any (w : World) (p : Nat) (c : Nat) (hc : 0 < c) (d : Bool) (h0 : w.cell? ⟨p, 0, none⟩ = some (.int .i64 c)) (h5 : w.cell? ⟨p, 5, none⟩ = some (.bool d)) :
    Calls Tryz.prog 71 #[.pointer (some ⟨p, 0, none⟩)] w fun e w' => e = .returned (.bool !d) ∧ w = w' := by
  go_enter Tryz.func71, Tryz.ntmps71
  go_wp2_with (first | (go_at_call 59; refine (made_any _ _ c hc h0).mono ?_; rintro e w' ⟨rfl, rfl⟩) | fail)
  go_ret
  exact ⟨rfl, rfl⟩

theorem has_any (w : World) (p : Nat) (c : Nat) (k : Int) (h0 : w.cell? ⟨p, 0, none⟩ = some (.int .i64 c)) :
    Calls Tryz.prog 72 #[.pointer (some ⟨p, 0, none⟩), .int .i64 k] w fun e w' => e = .returned (.bool (decide (0 ≤ k) && decide (k < c))) ∧ w = w' := by
  go_enter Tryz.func72, Tryz.ntmps72
  by_cases hk : 0 ≤ k
  · go_wp2_with fail
    go_ret
    simp [hk]
  · go_wp2_with fail
    go_ret
    simp
    omega

/-- What an op has become of a disk. -/
def DS.spent (s : DS) : DS := { s with fuse := if 0 < s.fuse then s.fuse - 1 else s.fuse, ops := s.ops + 1 }

theorem spend_any (w : World) (p m n : Nat) (lv : Value) (s : DS) (h : DiskIn w p m lv n s) (hf : -9223372036854775808 ≤ s.fuse ∧ s.fuse ≤ 9223372036854775807) (ho : 0 ≤ s.ops ∧ s.ops ≤ 4611686018427387904) :
    Calls Tryz.prog 73 #[.pointer (some ⟨p, 0, none⟩)] w fun e w' =>
      (s.fuse = 0 → e = .returned (.int .i64 14) ∧ DiskIn w' p m lv n { s with dead := true }) ∧
      (s.fuse ≠ 0 → e = .returned (.int .i64 0) ∧ DiskIn w' p m lv n s.spent) ∧ Keeps [p] w w' := by
  have c3 := h.c3
  have c4 := h.c4
  have c5 := h.c5
  have f3 := h.fr 3
  have f4 := h.fr 4
  have f5 := h.fr 5
  by_cases h0 : s.fuse = 0
  · have t0 : (s.fuse == 0) = true := by simp [h0]
    go_enter Tryz.func73, Tryz.ntmps73
    go_wp2_with fail
    go_ret
    refine ⟨fun _ => ⟨rfl, h.set 5 _ (by simp [dcells]) rfl rfl rfl rfl⟩, fun hn => absurd h0 hn, (Keeps.refl _ _).setCell (Or.inl (by simp)) _⟩
  · have t0 : (s.fuse == 0) = false := by simp [h0]
    by_cases hp : 0 < s.fuse
    · go_enter Tryz.func73, Tryz.ntmps73
      go_wp2_with fail
      go_ret
      refine ⟨fun hn => absurd hn h0, fun _ => ⟨rfl, ?_⟩, ((Keeps.refl _ _).setCell (Or.inl (by simp)) _).setCell (Or.inl (by simp)) _⟩
      have h1 := h.set (s' := { s with fuse := s.fuse - 1 }) 3 (.int .i64 (s.fuse - 1)) (by simp [dcells]) rfl rfl rfl rfl
      have h2 := h1.set (s' := s.spent) 4 (.int .i64 (s.ops + 1)) (by simp [dcells, DS.spent, hp]) rfl rfl rfl rfl
      exact h2
    · have H0 := hid h0
      clear h0
      go_enter Tryz.func73, Tryz.ntmps73
      go_wp2_with fail
      go_ret
      refine ⟨fun hn => absurd hn H0.out, fun _ => ⟨rfl, ?_⟩, (Keeps.refl _ _).setCell (Or.inl (by simp)) _⟩
      exact h.set (s' := s.spent) 4 (.int .i64 (s.ops + 1)) (by simp [dcells, DS.spent]; omega) rfl rfl rfl rfl

theorem blank_any (c : Nat) (w : World) :
    Calls Tryz.prog 18 #[.int .i64 c] w fun e w' => ∃ p m, e = .returned (.pointer (some ⟨p, 0, none⟩)) ∧ DiskIn w' p m (.slice none 0 0) 0 ⟨c, fun _ => zrow, fun _ => zrow, [], -1, 0, false⟩ ∧ Keeps [] w w' ∧ w.heap.size ≤ p ∧ w.heap.size ≤ m := by
  have hmm := @run_makeMap Tryz.prog
  go_enter Tryz.func18, Tryz.ntmps18
  go_wp2_with fail
  go_ret
  refine ⟨_, w.heap.size, rfl, ⟨?_, ?_, ?_⟩, ((Keeps.refl _ _).alloc _).alloc _, by omega, Nat.le_refl _⟩
  · have := heap_alloc_new (w.alloc (.map #[] 0)) (.cells (dcells ⟨c, fun _ => zrow, fun _ => zrow, [], -1, 0, false⟩ w.heap.size (.slice none 0 0)) 79)
    simpa [dcells] using this
  · exact (MapIs.made w c).block (Below.heap_alloc _ _ _ (by simp))
  · exact World.ownsRow_nil _ _ _ _

end Go.Proofs.YtnhcfkiejldicaaGreat
