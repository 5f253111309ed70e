/- bag: rows of messages that are cut; append onto a row that is cut to its length. -/
import Derived.Test.YtkfebgbgnpdgpaaBgA
namespace Go.Proofs.Ytkfebgbgnpdgpaa
open Go.RowKit

theorem MT.size {E T : TypeId} (mt : MT E T) (W : World) : (sizeOf E).run Try.prog W = .ok 3 W := by
  obtain ⟨i0, hi, hz0, hz1, hz2⟩ := info_parts mt.inf
  simp [sizeOf, typeInfo, hi, hz1, Result.andThen]

theorem MT.elem' {E T : TypeId} (mt : MT E T) : Try.prog.underlying T = some (.slice (Try.prog.elem T)) := by rw [mt.elem]; exact mt.und

theorem addr_add0 (ad : Addr) : ad.add 0 = ad := by unfold Addr.add; split <;> simp_all

/-- The first n messages. -/
theorem msgs_take {E T : TypeId} (mt : MT E T) {w : World} {X : List Nat} {a : Option Addr} {len cap : Nat} {ms : List Mg} (h : MsgsAt w X (.slice a len cap) ms) (n : Nat) (hn : n ≤ ms.length) :
    (∀ W, (Instr.sliceAt T (.slice a len cap) none (some (.int .i64 (n : Int))) none).run Try.prog W = .ok (.slice a n cap) W) ∧
      (∀ W, (Instr.slice T (.slice a len cap) none (some (.int .i64 (n : Int))) none).run Try.prog W = .ok (.slice a n cap) W) ∧
      (∀ W, MsgsAt W X (.slice a len cap) ms → MsgsAt W X (.slice a n cap) (ms.take n)) := by
  obtain ⟨a', cap', hv, h1, h2, h3, h4, h5⟩ := h
  injection hv with e1 e2 e3
  subst e1; subst e2; subst e3
  have hrun : ∀ W, (Instr.slice T (.slice a ms.length cap) none (some (.int .i64 (n : Int))) none).run Try.prog W = .ok (.slice (if cap = 0 then a else a.map (·.add 0)) n cap) W := by
    intro W
    rw [run_slice_h W T a ms.length cap mt.elem' .i64 n (by omega) (by omega), mt.elem, mt.size]
    simp [Result.andThen, sliced]
  have ha : (if cap = 0 then a else a.map (·.add 0)) = a := by
    split
    · rfl
    · cases a <;> simp [addr_add0]
  rw [ha] at hrun
  refine ⟨fun W => by rw [run_sliceAt_slice W T _ _ _ _ mt.elem']; exact hrun W, hrun, ?_⟩
  rintro W ⟨a', cap', hv, g1, g2, g3, g4, g5⟩
  injection hv with e1 e2 e3
  subst e1; subst e3
  refine ⟨a, cap, by rw [List.length_take, Nat.min_eq_left hn], by rw [List.length_take]; omega, g2, g3, fun m hm => g4 m (List.mem_of_mem_take hm), fun hne => ?_⟩
  obtain ⟨g, off, rfl, hg, hc⟩ := g5 (by rintro rfl; simp at hne)
  refine ⟨g, off, rfl, hg, fun j u hu => hc j u ?_⟩
  rw [mcells_take, List.getElem?_take] at hu
  split at hu
  · exact hu
  · cases hu

/-- The first n messages, with no room behind them. -/
theorem msgs_cut {E T : TypeId} (mt : MT E T) {w : World} {X : List Nat} {a : Option Addr} {len cap : Nat} {ms : List Mg} (h : MsgsAt w X (.slice a len cap) ms) (n : Nat) (hn : n ≤ ms.length) :
    (∀ W, (Instr.sliceAt T (.slice a len cap) none (some (.int .i64 (n : Int))) (some (.int .i64 (n : Int)))).run Try.prog W = .ok (.slice a n n) W) ∧
      (∀ W, (Instr.slice T (.slice a len cap) none (some (.int .i64 (n : Int))) (some (.int .i64 (n : Int)))).run Try.prog W = .ok (.slice a n n) W) := by
  obtain ⟨a', cap', hv, h1, h2, h3, h4, h5⟩ := h
  injection hv with e1 e2 e3
  subst e1; subst e2; subst e3
  have hrun : ∀ W, (Instr.slice T (.slice a ms.length cap) none (some (.int .i64 (n : Int))) (some (.int .i64 (n : Int)))).run Try.prog W = .ok (.slice (if n = 0 then a else a.map (·.add 0)) n n) W := by
    intro W
    rw [run_slice_hm W T a ms.length cap mt.elem' .i64 .i64 n n (by omega) (by omega) (by omega), mt.elem, mt.size]
    simp [Result.andThen, sliced]
  have ha : (if n = 0 then a else a.map (·.add 0)) = a := by
    split
    · rfl
    · cases a <;> simp [addr_add0]
  rw [ha] at hrun
  exact ⟨fun W => by rw [run_sliceAt_slice W T _ _ _ _ mt.elem']; exact hrun W, hrun⟩

/-- What is behind them. -/
theorem msgs_drop {E T : TypeId} (mt : MT E T) {w : World} {X : List Nat} {a : Option Addr} {len cap : Nat} {ms : List Mg} (h : MsgsAt w X (.slice a len cap) ms) (n : Nat) (hn : n ≤ ms.length) :
    ∃ a1, (∀ W, (Instr.sliceAt T (.slice a len cap) (some (.int .i64 (n : Int))) none none).run Try.prog W = .ok (.slice a1 (ms.length - n) (cap - n)) W) ∧
      (∀ W, (Instr.slice T (.slice a len cap) (some (.int .i64 (n : Int))) none none).run Try.prog W = .ok (.slice a1 (ms.length - n) (cap - n)) W) ∧
      (∀ W, MsgsAt W X (.slice a len cap) ms → MsgsAt W X (.slice a1 (ms.length - n) (cap - n)) (ms.drop n)) := by
  obtain ⟨a', cap', hv, h1, h2, h3, h4, h5⟩ := h
  injection hv with e1 e2 e3
  subst e1; subst e2; subst e3
  have hrun : ∀ W, (Instr.slice T (.slice a ms.length cap) (some (.int .i64 (n : Int))) none none).run Try.prog W = .ok (.slice (if cap = n then a else a.map (·.add (n * 3))) (ms.length - n) (cap - n)) W := by
    intro W
    rw [run_slice_l W T a ms.length cap mt.elem' .i64 n (by omega) (by omega), mt.elem, mt.size]
    simp [Result.andThen, sliced]
  refine ⟨_, fun W => by rw [run_sliceAt_slice W T _ _ _ _ mt.elem']; exact hrun W, hrun, ?_⟩
  rintro W ⟨a', cap', hv, g1, g2, g3, g4, g5⟩
  injection hv with e1 e2 e3
  subst e1; subst e3
  refine ⟨_, cap - n, by rw [List.length_drop], by rw [List.length_drop]; omega, by omega, ?_, fun m hm => g4 m (List.mem_of_mem_drop hm), fun hne => ?_⟩
  · split
    · intro _; omega
    · cases a with
      | none => intro _; have := g3 rfl; omega
      | some ad => simp
  · have hlt : n < ms.length := by
      rcases Nat.lt_or_ge n ms.length with h | h
      · exact h
      · exact absurd (List.drop_eq_nil_of_le h) hne
    obtain ⟨g, off, rfl, hg, hc⟩ := g5 (by rintro rfl; simp at hlt)
    rw [if_neg (by omega)]
    refine ⟨g, off + n * 3, by rw [Option.map_some, Addr.add_lit], hg, fun j u hu => ?_⟩
    rw [Nat.add_assoc]
    refine hc _ u ?_
    rw [mcells_drop, List.getElem?_drop] at hu
    exact hu

/-- append onto a row that has no room: the new row lies in new memory. -/
theorem append_cut {E T : TypeId} (mt : MT E T) {w : World} {B : Nat} {X : List Nat} {a0 : Option Addr} {n0 c0 : Nat} {ms es : List Mg} (h : Own E w B X (.slice a0 n0 c0) ms) (A : Option Addr) (c : Nat) (hs : MsgsAt w X (.slice A es.length c) es) (hes : es ≠ []) (hl : ms.length + es.length ≤ 100000) (ty : TypeId) :
    ∃ a' c' w', (Builtin.append_ #[T, T] ty #[.slice a0 ms.length ms.length, .slice A es.length c]).run Try.prog w = .ok (.slice a' (ms.length + es.length) c') w' ∧ Own E w' w.heap.size X (.slice a' (ms.length + es.length) c') (ms ++ es) ∧ Keeps [] w w' := by
  obtain ⟨i, hi, hz, hz3, hz40⟩ := info_parts mt.inf
  have hpos : 0 < es.length := List.length_pos_iff.2 hes
  have hs' := hs
  obtain ⟨aa, cc, hv0, h1, h2, h0, h3, h4⟩ := hs'
  injection hv0 with e1 _ e3
  subst e1; subst e3
  obtain ⟨g1, o1, rfl, hg1, hc1⟩ := h4 hes
  have hnews : ∀ j u, (mcells es)[j]? = some u → w.cell? ((⟨g1, o1, none⟩ : Addr).add j) = some u := fun j u hu => by rw [Addr.add_lit]; exact hc1 j u hu
  have hok : ∀ (w' : World), Keeps [] w w' → ∀ m ∈ ms ++ es, MgOk w' X m := fun w' k m hm => by
    rcases List.mem_append.1 hm with hm | hm
    · exact (h.ok m hm).keep k (by simp)
    · exact (h3 m hm).keep k (by simp)
  cases a0 with
  | none =>
    obtain ⟨rfl, rfl⟩ : ms = [] ∧ n0 = 0 := by
      rcases h.row.2 with ⟨e, h0⟩ | ⟨g, cap, cur, e, _⟩
      · injection e with _ e2 _
        exact ⟨List.eq_nil_of_length_eq_zero h0, e2⟩
      · injection e with e _ _
        cases e
    obtain ⟨a', c', w', hr, ho, hg, hn⟩ := run_append_rows (P := Try.prog) w w.heap.size T ty E i _ 3 40 mt.und hi hz hz3 hz40 rfl (by omega) (.slice none 0 0) 0 [] (World.ownsRow_nil _ _ _ _) (some ⟨g1, o1, none⟩) es.length c (mcells es) (mcells_length es) (by simp) h1
      (fun ad had j u hu => by obtain rfl := Option.some.inj had; exact hnews j u hu) (mcells_one w X es h3) (by unfold maxLen; omega) (by simp at hl; omega) (Nat.le_refl _)
    have hk : Keeps [] w w' := (Keeps.refl _ _).grown hg (fun k hk => by simp [Value.ownBlock] at hk)
    have hrow : w'.ownsRow w.heap.size E 3 (.slice a' (0 + es.length) c') ([] ++ es).length (mcells ([] ++ es)) := by simpa using ho
    refine ⟨a', c', w', hr, ⟨hrow, hok w' hk, fun k hk2 hm => ?_, fun k hm => Nat.lt_of_lt_of_le (h.lt k hm) hk.size⟩, hk⟩
    have := (ho.lt k hk2).1
    have := h.lt k hm
    omega
  | some ad =>
    obtain ⟨g, cap, cur, e, hb, hg, hnc, hcm, hcs, ht⟩ : ∃ g cap cur, (Value.slice (some ad) n0 c0) = .slice (some ⟨g, 0, none⟩) ms.length cap ∧ B ≤ g ∧ w.heap[g]? = some (.cells cur E (0, 0)) ∧ ms.length ≤ cap ∧ cap ≤ maxLen ∧ cur.size = cap * 3 ∧ cur.toList.take (ms.length * 3) = mcells ms := by
      rcases h.row.2 with ⟨e, h0⟩ | h
      · injection e with e _ _
        cases e
      · exact h
    injection e with e1 e2 e3
    obtain rfl := Option.some.inj e1
    subst e2; subst e3
    have hr := run_append_grow (P := Try.prog) w T ty E i _ mt.und hi hz ⟨g, 0, none⟩ ms.length ms.length (mcells ms) (by rw [hz3]; exact mcells_length ms) (h.row.cells (g := g) rfl) ⟨g1, o1, none⟩ es.length c (mcells es) (by rw [hz3]; exact mcells_length es) hnews (by omega) (by omega) (growslice_fits (by omega) (by rw [hz40]; omega))
    have hk : Keeps [] w (w.drew.alloc (.cells ((mcells ms).toArray ++ (mcells es).toArray ++ Builtin.zeroCells (Value.agg #[.int .i64 0, .int .i64 0, .slice none 0 0]).cells (grownCap w (ms.length + es.length) ms.length E - (ms.length + es.length))) E)) := (Keeps.refl [] w).drew.alloc _
    have hge := grownCap_ge w (ms.length + es.length) ms.length E
    have hcm2 : grownCap w (ms.length + es.length) ms.length E ≤ maxLen := grownCap_le_maxLen w _ _ E (by unfold maxLen; omega)
    have hrow : (w.drew.alloc (.cells ((mcells ms).toArray ++ (mcells es).toArray ++ Builtin.zeroCells (Value.agg #[.int .i64 0, .int .i64 0, .slice none 0 0]).cells (grownCap w (ms.length + es.length) ms.length E - (ms.length + es.length))) E)).ownsRow w.heap.size E 3
        (.slice (some ⟨w.heap.size, 0, none⟩) (ms.length + es.length) (grownCap w (ms.length + es.length) ms.length E)) (ms ++ es).length (mcells (ms ++ es)) := by
      refine ⟨mcells_length _, .inr ⟨w.heap.size, _, _, by rw [List.length_append], Nat.le_refl _, heap_alloc_new w.drew _, by rw [List.length_append]; exact hge, hcm2, ?_, ?_⟩⟩
      · simp only [Array.size_append, List.size_toArray, size_zeroCells, mcells_length]
        simp only [Value.cells, List.size_toArray, List.length_cons, List.length_nil]
        omega
      · simp only [Array.toList_append, List.append_assoc]
        rw [← List.append_assoc, ← mcells_append, List.length_append, ← List.length_append, ← mcells_length]
        exact List.take_left
    refine ⟨_, _, _, hr, ⟨hrow, hok _ hk, fun k hk2 hm => ?_, fun k hm => Nat.lt_of_lt_of_le (h.lt k hm) hk.size⟩, hk⟩
    have := h.lt k hm
    simp [Value.ownBlock] at hk2
    omega

/-- A bag: its two cells; its row is its own. -/
structure BagAt (T E : TypeId) (w : World) (p : Nat) (X : List Nat) (v : Value) (most : Int) (ms : List Mg) : Prop where
  blk : w.heap[p]? = some (.cells #[.int .i64 most, v] T (0, 0))
  own : Own E w 0 X v ms
  ne : v.ownBlock ≠ some p
  pX : p ∉ X
  m1 : 1 ≤ most
  m2 : most ≤ 64
  fits : (ms.length : Int) ≤ most

theorem BagAt.c0 {T E w p X v most ms} (h : BagAt T E w p X v most ms) : w.cell? ⟨p, 0, none⟩ = some (.int .i64 most) := by simp [World.cell?, h.blk]
theorem BagAt.c1 {T E w p X v most ms} (h : BagAt T E w p X v most ms) : w.cell? ⟨p, 1, none⟩ = some v := by simp [World.cell?, h.blk]
theorem BagAt.f1 {T E w p X v most ms} (h : BagAt T E w p X v most ms) : w.frozen? ⟨p, 1, none⟩ = false := by simp [World.frozen?, h.blk]
theorem BagAt.lt {T E w p X v most ms} (h : BagAt T E w p X v most ms) : p < w.heap.size := lt_of_block h.blk

/-- All blocks of a bag. -/
def bfoot (p : Nat) (X : List Nat) (v : Value) : List Nat := p :: (v.ownBlock.toList ++ X)

theorem mem_bfoot {p : Nat} {X : List Nat} {v : Value} {k : Nat} : k ∈ bfoot p X v ↔ k = p ∨ v.ownBlock = some k ∨ k ∈ X := by
  unfold bfoot
  cases v.ownBlock <;> simp [eq_comm]

theorem BagAt.keep {T E w p X v most ms} {w' : World} {S : List Nat} (h : BagAt T E w p X v most ms) (k : Keeps S w w') (hs : ∀ b ∈ bfoot p X v, b ∉ S) : BagAt T E w' p X v most ms :=
  ⟨(k.block p h.lt (hs p (mem_bfoot.2 (Or.inl rfl)))).trans h.blk, h.own.keep k (fun b hb => hs b (mem_bfoot.2 (Or.inr (Or.inr hb)))) (fun b hb => hs b (mem_bfoot.2 (Or.inr (Or.inl hb)))), h.ne, h.pX, h.m1, h.m2, h.fits⟩
theorem BagAt.later {T E w p X v most ms} {w' : World} (h : BagAt T E w p X v most ms) (k : Keeps [] w w') : BagAt T E w' p X v most ms := h.keep k (by simp)
theorem BagAt.ltF {T E w p X v most ms} (h : BagAt T E w p X v most ms) : ∀ b ∈ bfoot p X v, b < w.heap.size := fun b hb => by
  rcases mem_bfoot.1 hb with rfl | hb | hb
  · exact h.lt
  · exact (h.own.blk b hb).2
  · exact h.own.lt b hb

/-- Blocks that were there, or new ones. -/
def Fr (w : World) (F F' : List Nat) : Prop := ∀ b ∈ F', b ∈ F ∨ w.heap.size ≤ b
theorem Fr.refl (w : World) (F : List Nat) : Fr w F F := fun _ hb => Or.inl hb
theorem Fr.trans {w w1 : World} {F F1 F2 : List Nat} (h : Fr w F F1) (hz : w.heap.size ≤ w1.heap.size) (k : Fr w1 F1 F2) : Fr w F F2 := fun b hb => by
  rcases k b hb with hb | hb
  · exact h b hb
  · exact Or.inr (Nat.le_trans hz hb)
/-- Two rows of blocks with none in common. -/
def Dj (F G : List Nat) : Prop := ∀ b ∈ F, b ∉ G
theorem Dj.symm {F G : List Nat} (h : Dj F G) : Dj G F := fun b hb hf => h b hf hb
theorem Dj.fr {w : World} {F F' G : List Nat} (h : Dj F G) (f : Fr w F F') (hG : ∀ b ∈ G, b < w.heap.size) : Dj F' G := fun b hb hg => by
  rcases f b hb with hb | hb
  · exact h b hb hg
  · have := hG b hg; omega

/-- The row is put into the bag. -/
theorem BagAt.put {T E w p X v most ms} {X' : List Nat} {v' : Value} {ms' : List Mg} (h : BagAt T E w p X v most ms) (ho : Own E w 0 X' v' ms') (hp : p ∉ X') (hv : v'.ownBlock ≠ some p) (hl : (ms'.length : Int) ≤ most) :
    BagAt T E (w.setCell ⟨p, 1, none⟩ v') p X' v' most ms' := by
  have k : Keeps [p] w (w.setCell ⟨p, 1, none⟩ v') := (Keeps.refl [p] w).setCell (Or.inl (by simp)) v'
  refine ⟨?_, ho.keep k (fun b hb hm => by simp at hm; subst hm; exact hp hb) (fun b hb hm => by simp at hm; subst hm; exact hv hb), hv, hp, h.m1, h.m2, hl⟩
  have := heap_setCell_same w p 1 _ T v' h.blk
  simpa using this
end Go.Proofs.Ytkfebgbgnpdgpaa
