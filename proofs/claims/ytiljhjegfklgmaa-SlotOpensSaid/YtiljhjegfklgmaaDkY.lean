/- The law DiskLasts: what it is about; how its rows are laid and written. -/
import Derived.Test.YtiljhjegfklgmaaDkX
namespace Go.Proofs.Ytiljhjegfklgmaa
open Go.RowKit

def HasRow (r : Row) (l : List Int) : Prop := ∃ c ∈ l, r.1 = secL c

/-- What may be there behind a crash. -/
structure LastS (s : DS) (xs : Nat → List Int) (now : Nat → Int) : Prop where
  cnt : s.cnt = 8
  las : ∀ i, i < 8 → HasRow (s.las i) (xs i)
  loo : ∀ x ∈ s.loose, HasRow x.2 (xs x.1)
  now : s.dead = false → ∀ i, i < 8 → (s.now i).1 = secL (now i)

theorem zrow_sec : zrow.1 = secL 0 := by kernel_rfl
theorem LastS.start : LastS (blankS 8) (fun _ => [0]) (fun _ => 0) :=
  ⟨rfl, fun _ _ => ⟨0, by simp, zrow_sec⟩, fun x hx => by simp [blankS] at hx, fun _ _ _ => zrow_sec⟩

theorem mk_sec {c : Int} (h : 0 ≤ c ∧ c ≤ 255) : (mkRow (secL c)).1 = secL c := mkRow_is (secL_len c) (secL_byte h)

theorem HasRow.more {r : Row} {l : List Int} (h : HasRow r l) (c : Int) : HasRow r (l ++ [c]) := by
  obtain ⟨d, hd, e⟩ := h
  exact ⟨d, by simp [hd], e⟩
theorem HasRow.upd {r : Row} {xs : Nat → List Int} {i j : Nat} (h : HasRow r (xs j)) (c : Int) : HasRow r (upd xs i (xs i ++ [c]) j) := by
  by_cases e : j = i
  · subst e
    rw [upd_same]
    exact h.more c
  · rw [upd_ne _ _ e]
    exact h

theorem LastS.write {s : DS} {xs : Nat → List Int} {now : Nat → Int} (h : LastS s xs now) (hd : s.dead = false) (n : Nat) (hn : n < 8) (c : Int) (hc : 0 ≤ c ∧ c ≤ 255) :
    LastS (writeS s n (secL c)) (upd xs n (xs n ++ [c])) (upd now n c) ∧ (writeE s n (secL c).length = 0 ∧ (writeS s n (secL c)).dead = false ∨ writeE s n (secL c).length = 14 ∧ (writeS s n (secL c)).dead = true) := by
  have ht : s.takes (n : Int) (secL c).length := ⟨hd, by omega, by rw [h.cnt]; omega, secL_len c⟩
  have hl : ∀ x ∈ s.loose ++ [(n, mkRow (secL c))], HasRow x.2 (upd xs n (xs n ++ [c]) x.1) := by
    intro x hx
    rcases List.mem_append.1 hx with hx | hx
    · exact (h.loo x hx).upd c
    · simp at hx
      subst hx
      exact ⟨c, by simp, mk_sec hc⟩
  simp only [writeS, writeE, if_pos ht, DS.wrote, Int.toNat_natCast]
  by_cases hf : s.fuse = 0
  · rw [if_pos hf, if_pos hf]
    exact ⟨⟨h.cnt, fun i hi => (h.las i hi).upd c, hl, fun h => by cases h⟩, .inr ⟨rfl, rfl⟩⟩
  · rw [if_neg hf, if_neg hf]
    refine ⟨⟨h.cnt, fun i hi => (h.las i hi).upd c, hl, fun _ i hi => ?_⟩, .inl ⟨rfl, hd⟩⟩
    show (upd s.now n (mkRow (secL c)) i).1 = _
    by_cases e : i = n
    · subst e
      rw [upd_same, upd_same]
      exact mk_sec hc
    · rw [upd_ne _ _ e, upd_ne _ _ e]
      exact h.now hd i hi

theorem LastS.syncDies {s : DS} {xs : Nat → List Int} {now : Nat → Int} (h : LastS s xs now) (hd : s.dead = false) (hf : s.fuse = 0) : syncE s = 14 ∧ (syncS s).dead = true ∧ LastS (syncS s) xs now := by
  simp only [syncE, syncS, hd, hf, Bool.false_eq_true, if_false, if_true, true_and]
  exact ⟨h.cnt, h.las, h.loo, fun h => by cases h⟩

theorem LastS.sync {s : DS} {xs : Nat → List Int} {now : Nat → Int} (h : LastS s xs now) (hd : s.dead = false) (hf : s.fuse ≠ 0) : syncE s = 0 ∧ (syncS s).dead = false ∧ ∀ ys : Nat → List Int, (∀ i, i < 8 → ys i = [now i]) → LastS (syncS s) ys now := by
  simp only [syncE, syncS, hd, Bool.false_eq_true, if_false, if_neg hf, true_and]
  refine ⟨hd, fun ys hy => ⟨h.cnt, fun i hi => ?_, fun x hx => by simp [DS.synced] at hx, fun _ => h.now hd⟩⟩
  rw [hy i hi]
  exact ⟨now i, by simp, h.now hd i hi⟩

theorem LastS.fuse {s : DS} {xs : Nat → List Int} {now : Nat → Int} (h : LastS s xs now) (k : Int) : LastS (fuseS s k) xs now := by
  unfold fuseS
  split
  · exact h
  · exact ⟨h.cnt, h.las, h.loo, h.now⟩

theorem keptBy_mem (ch : List Int) (l : List (Nat × Row)) : ∀ x ∈ keptBy ch l, x ∈ l := by
  intro x hx
  simp only [keptBy, List.mem_map, List.mem_filter] at hx
  obtain ⟨⟨y, i⟩, ⟨hy, _⟩, rfl⟩ := hx
  have := List.mem_zipIdx hy
  obtain ⟨_, _, e⟩ := this
  rw [e]
  exact List.getElem_mem _

theorem fold_has (xs : Nat → List Int) : ∀ (l : List (Nat × Row)) (g : Nat → Row), (∀ x ∈ l, HasRow x.2 (xs x.1)) → (∀ i, i < 8 → HasRow (g i) (xs i)) → ∀ i, i < 8 → HasRow ((l.foldl (fun g x => upd g x.1 x.2) g) i) (xs i)
  | [], _, _, h2 => h2
  | x :: l, g, h1, h2 => fold_has xs l _ (fun y hy => h1 y (List.mem_cons_of_mem _ hy)) (fun i hi => by
      show HasRow (upd g x.1 x.2 i) (xs i)
      by_cases e : i = x.1
      · subst e
        rw [upd_same]
        exact h1 x List.mem_cons_self
      · rw [upd_ne _ _ e]
        exact h2 i hi)

theorem LastS.crash {s : DS} {xs : Nat → List Int} {now : Nat → Int} (h : LastS s xs now) (ch : List Int) : ∀ i, i < 8 → HasRow ((s.crashed ch).now i) (xs i) :=
  fold_has xs _ _ (fun x hx => h.loo x (keptBy_mem ch _ x hx)) h.las

/-- Nil rows, laid. -/
theorem MayAt.start (w : World) (B : Nat) (hB : B ≤ w.heap.size) : MayAt (w.alloc (.cells (row8 fun _ => .slice none 0 0).toArray 31)) B w.heap.size (fun _ => .slice none 0 0) (fun _ => []) :=
  ⟨heap_alloc_new w _, hB, fun _ _ => World.ownsRow_nil _ _ _ _, fun _ _ _ _ _ b e => (by cases e), fun _ _ e => (by cases e), fun _ _ c hc => (by cases hc)⟩

/-- A row of one byte. -/
theorem MayAt.lit {w : World} {B g : Nat} {vs : Nat → Value} {xs : Nat → List Int} (h : MayAt w B g vs xs) (i : Nat) (hi : i < 8) (c : Int) (hc : 0 ≤ c ∧ c ≤ 255) :
    MayAt ((w.alloc (.cells #[.int .u8 c] 5)).setCell ⟨g, i, none⟩ (.slice (some ⟨w.heap.size, 0, none⟩) 1 1)) B g (upd vs i (.slice (some ⟨w.heap.size, 0, none⟩) 1 1)) (upd xs i [c]) := by
  have hg := lt_of_block h.cells
  have hl := h.low
  refine h.put i hi _ [c] (fun k hk _ => Below.heap_alloc _ _ _ hk) ⟨by simp, .inr ⟨w.heap.size, 1, _, rfl, by omega, heap_alloc_new w _, by simp, by unfold maxLen; omega, by simp, by simp⟩⟩ (fun b e => .inr ?_) (by simpa using hc)
  simp [Value.ownBlock] at e
  omega

theorem exec_one {ρ : Operand → Value} {o : Oper} {w : World} (x : Operand) (c : Int) (ho : o.op = .buildSlice 31 1 #[(0, x)]) (hx : ρ x = .int .u8 c) :
    (execOp ρ o).run Try.prog w = .ok (.value (.slice (some ⟨w.heap.size, 0, none⟩) 1 1)) (w.alloc (.cells #[.int .u8 c] 5)) := by
  obtain ⟨ie, hie, hz, hs, _⟩ := info_parts info5
  have h : (Instr.buildSlice 31 1 #[(0, .int .u8 c)]).run Try.prog w = .ok (.slice (some ⟨w.heap.size, 0, none⟩) 1 1) (w.alloc (.cells #[.int .u8 c] 5)) := by
    refine run_buildSlice w _ _ 1 _ _ ie _ Try.underlying31 hie hz (by rw [hs]; decide) (by rw [hs]; decide) ?_
    rw [hs]
    have e : (Array.range (1 * 1)) = #[0] := rfl
    have e2 : (Value.int .u8 0).cells = #[.int .u8 0] := rfl
    have e3 : (Value.int .u8 c).cells = #[.int .u8 c] := rfl
    simp only [Instr.fill, e, e2, e3]
    simp
  simp only [execOp, ho, List.map_toArray, List.map_cons, List.map_nil, hx, Sem.run_bind, h, Result.andThen_ok, Sem.run_pure]

theorem wpList_one {ops : Array Oper} {rest : List Oper} {o : Oper} {a : Act} {w : World} {Q : Exit → Act → World → Prop} (hgd : o.guard = none) (x : Operand) (ho : o.op = .buildSlice 31 1 #[(0, x)]) (c : Int) (hx : a.eval x = .int .u8 c)
    (h : wpList Try.prog ops Q rest (a.put o.dst (.slice (some ⟨w.heap.size, 0, none⟩) 1 1)) (w.alloc (.cells #[.int .u8 c] 5))) : wpList Try.prog ops Q (o :: rest) a w :=
  wpList_is hgd _ _ (exec_one x c ho hx) h

theorem bits_in (op : BinOp) (x y : Int) : -9223372036854775808 ≤ bits op .i64 x y ∧ bits op .i64 x y ≤ 9223372036854775807 := by
  unfold bits
  simp only [IntKind.wrap_i64]
  omega

theorem made_rows : madeCells (Value.slice none 0 0).cells 8 = (row8 fun _ => Value.slice none 0 0).toArray := by
  apply Array.ext'
  exact (toList_madeCells_one (Value.slice none 0 0) 8).trans rfl
theorem made_now : madeCells (Value.int .u8 0).cells 8 = (row8 fun _ => Value.int .u8 0).toArray := by
  apply Array.ext'
  exact (toList_madeCells_one (Value.int .u8 0) 8).trans rfl

end Go.Proofs.Ytiljhjegfklgmaa
