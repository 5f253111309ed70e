/- blocks: pointers, rows of pointers in memory; append of pointers. -/
import Derived.Test.YtamcllcjondcpaaKitF
import Derived.Test.YtamcllcjondcpaaKitE
namespace Go.Proofs.Ytamcllcjondcpaa
open Go.RowKit Go.Shelf
set_option maxRecDepth 100000
set_option linter.unusedSimpArgs false

structure Pt where
  c : Int
  l : Int
  n : Int
  a : Int
  k : Int
deriving DecidableEq, Inhabited
def Pt.cells (x : Pt) : List Value := [.int .i64 x.c, .int .i64 x.l, .int .i64 x.n, .int .i64 x.a, .int .i64 x.k]
def ptV (x : Pt) : Value := .agg x.cells.toArray
def pZ : Pt := ⟨0, 0, 0, 0, 0⟩
def pcells (ps : List Pt) : List Value := ps.flatMap Pt.cells
theorem pcells_length (ps : List Pt) : (pcells ps).length = ps.length * 5 := by
  induction ps with
  | nil => rfl
  | cons d ds ih => simp only [pcells, List.flatMap_cons, List.length_append, Pt.cells, List.length_cons, List.length_nil] at *; omega
theorem pcells_append (a b : List Pt) : pcells (a ++ b) = pcells a ++ pcells b := by simp [pcells]
theorem pcells_cons (m : Pt) (b : List Pt) : pcells (m :: b) = m.cells ++ pcells b := by simp [pcells]
theorem pcells_in : ∀ (ds : List Pt) (i : Nat) (h : i < ds.length) (j : Nat), j < 5 → (pcells ds)[i * 5 + j]? = ds[i].cells[j]?
  | d :: ds, 0, _, j, hj => by
    rw [pcells_cons, Nat.zero_mul, Nat.zero_add, List.getElem?_append_left (by simpa [Pt.cells] using hj)]
    rfl
  | d :: ds, i + 1, h, j, hj => by
    have ih := pcells_in ds i (by simpa using h) j hj
    rw [pcells_cons, List.getElem?_append_right (by simp [Pt.cells]; omega)]
    simp only [List.getElem_cons_succ]
    rw [← ih]
    congr 1
    simp [Pt.cells]
    omega
theorem pcells_take (ms : List Pt) (n : Nat) : pcells (ms.take n) = (pcells ms).take (n * 5) := by
  induction ms generalizing n with
  | nil => simp [pcells]
  | cons m ms ih =>
    cases n with
    | zero => simp [pcells]
    | succ n =>
      rw [List.take_succ_cons, pcells_cons, pcells_cons, ih, show (n + 1) * 5 = n * 5 + 5 by omega]
      rfl
theorem pcells_drop (ms : List Pt) (n : Nat) : pcells (ms.drop n) = (pcells ms).drop (n * 5) := by
  induction ms generalizing n with
  | nil => simp [pcells]
  | cons m ms ih =>
    cases n with
    | zero => simp [pcells]
    | succ n =>
      rw [List.drop_succ_cons, pcells_cons, ih, show (n + 1) * 5 = n * 5 + 5 by omega]
      rfl
theorem pcells_one (ds : List Pt) : ∀ u ∈ pcells ds, u.oneCell' = true := by
  intro u hu
  simp only [pcells, List.mem_flatMap] at hu
  obtain ⟨d, hd, hm⟩ := hu
  simp [Pt.cells] at hm
  rcases hm with rfl | rfl | rfl | rfl | rfl <;> rfl
theorem cells_one (x : Pt) : x.cells.toArray.all (·.oneCell') = true := by simp [Pt.cells, Value.oneCell']

theorem iPtr : (Try.prog.info? 47).map (fun i => (i.zero, i.size, i.bytes)) = some (some (ptV pZ), 5, 40) := by kernel_rfl
theorem iPtr2 : (Try.prog.info? 47).map (fun i => (i.zero, i.size)) = some (some (ptV pZ), 5) := by kernel_rfl
theorem sPtr : (Try.prog.info? 47).map (·.size) = some 5 := by kernel_rfl
theorem uPtr : Try.prog.underlying 47 = some (.struct (Try.prog.fieldsOf 47)) := by kernel_rfl
theorem ptrs_elem : Try.prog.underlying 39 = some (.slice (Try.prog.elem 39)) := by kernel_rfl
theorem ptrs_el : Try.prog.elem 39 = 47 := by kernel_rfl
theorem size_ptr (W : World) : (sizeOf 47).run Try.prog W = .ok 5 W := by
  obtain ⟨i0, hi, hz0, hz1, hz2⟩ := info_parts iPtr
  simp [sizeOf, typeInfo, hi, hz1, Result.andThen]

/-- A slice of pointers, to be read; it lies in none of the blocks of M. -/
def PtsAt (w : World) (M : List Nat) (v : Value) (ps : List Pt) : Prop :=
  ∃ (a : Option Addr) (cap : Nat), v = .slice a ps.length cap ∧ ps.length ≤ cap ∧ cap ≤ maxLen ∧ (a = none → cap = 0) ∧
    (∀ ad, a = some ad → ∃ g off, ad = ⟨g, off, none⟩ ∧ g < w.heap.size ∧ g ∉ M ∧ w.rangeAt g off (pcells ps))
theorem PtsAt.nil (w : World) (M : List Nat) : PtsAt w M (.slice none 0 0) [] := ⟨none, 0, rfl, by simp, by simp, fun _ => rfl, fun _ h => by cases h⟩
theorem PtsAt.keep {w w' : World} {M S : List Nat} {v : Value} {ps : List Pt} (h : PtsAt w M v ps) (k : Keeps S w w') (hs : ∀ b ∈ S, b ∈ M) : PtsAt w' M v ps := by
  obtain ⟨a, cap, rfl, h1, h2, h0, h4⟩ := h
  refine ⟨a, cap, rfl, h1, h2, h0, fun ad had => ?_⟩
  obtain ⟨g, off, rfl, hg, hM, hc⟩ := h4 ad had
  exact ⟨g, off, rfl, Nat.lt_of_lt_of_le hg k.size, hM, fun j u hu => k.cell' (hc j u hu) (fun hm => hM (hs _ hm))⟩
theorem PtsAt.later {w w' : World} {M : List Nat} {v : Value} {ps : List Pt} (h : PtsAt w M v ps) (k : Keeps [] w w') : PtsAt w' M v ps := h.keep k (by simp)
theorem PtsAt.more {w : World} {M N : List Nat} {v : Value} {ps : List Pt} (h : PtsAt w M v ps) (hN : ∀ b ∈ N, b ∈ M ∨ w.heap.size ≤ b) : PtsAt w N v ps := by
  obtain ⟨a, cap, rfl, h1, h2, h0, h4⟩ := h
  refine ⟨a, cap, rfl, h1, h2, h0, fun ad had => ?_⟩
  obtain ⟨g, off, rfl, hg, hM, hc⟩ := h4 ad had
  exact ⟨g, off, rfl, hg, fun hm => by
    rcases hN g hm with h | h
    · exact hM h
    · omega, hc⟩
theorem PtsAt.shape {w : World} {M : List Nat} {v : Value} {ps : List Pt} (h : PtsAt w M v ps) : ∃ a c, v = .slice a ps.length c := by
  obtain ⟨a, cap, rfl, _⟩ := h
  exact ⟨a, cap, rfl⟩
theorem PtsAt.two {w : World} {M : List Nat} {v : Value} {ps : List Pt} (h : PtsAt w M v ps) : (v = .slice none 0 0 ∧ ps = []) ∨ ∃ g off cap, v = .slice (some ⟨g, off, none⟩) ps.length cap ∧ ps.length ≤ cap ∧ cap ≤ maxLen ∧ g < w.heap.size ∧ g ∉ M ∧ w.rangeAt g off (pcells ps) := by
  obtain ⟨a, cap, rfl, h1, h2, h0, h4⟩ := h
  cases a with
  | none =>
    obtain rfl := h0 rfl
    have : ps = [] := List.eq_nil_of_length_eq_zero (by omega)
    subst this
    exact Or.inl ⟨rfl, rfl⟩
  | some ad =>
    obtain ⟨g, off, rfl, hg, hM, hc⟩ := h4 ad rfl
    exact Or.inr ⟨g, off, cap, rfl, h1, h2, hg, hM, hc⟩
theorem PtsAt.open {w : World} {M : List Nat} {a : Option Addr} {n cap : Nat} {ps : List Pt} (h : PtsAt w M (.slice a n cap) ps) (hne : 0 < ps.length) :
    ∃ g off, a = some ⟨g, off, none⟩ ∧ n = ps.length ∧ ps.length ≤ cap ∧ g < w.heap.size ∧ g ∉ M ∧ w.rangeAt g off (pcells ps) := by
  rcases h.two with ⟨_, rfl⟩ | ⟨g, off, cap', hv, h1, h2, hg, hM, hc⟩
  · simp at hne
  · injection hv with e1 e2 e3
    subst e1; subst e2; subst e3
    exact ⟨g, off, rfl, rfl, h1, hg, hM, hc⟩
theorem range_pt {w : World} {g off : Nat} {ps : List Pt} (h : w.rangeAt g off (pcells ps)) (i : Nat) (hi : i < ps.length) : w.rangeAt g (off + i * 5) ps[i].cells := fun j u hu => by
  have hj : j < 5 := by
    have := (List.getElem?_eq_some_iff.1 hu).1
    simpa [Pt.cells] using this
  have := h (i * 5 + j) u (by rw [pcells_in ps i hi j hj]; exact hu)
  rwa [← Nat.add_assoc] at this
theorem PtsAt.cells {w : World} {M : List Nat} {a : Option Addr} {n c : Nat} {ps : List Pt} (h : PtsAt w M (.slice a n c) ps) : ∀ ad, a = some ad → ∀ j u, (pcells ps)[j]? = some u → w.cell? (ad.add j) = some u := by
  rintro ad had j u hu
  have hne : 0 < ps.length := by
    cases ps with
    | nil => simp [pcells] at hu
    | cons _ _ => simp
  obtain ⟨g, off, e, _, _, _, _, hc⟩ := h.open hne
  rw [had] at e
  obtain rfl := Option.some.inj e
  rw [Addr.add_lit]
  exact hc j u hu

/-- Pointers of the call's own. -/
structure OwnP (w : World) (B : Nat) (M : List Nat) (v : Value) (ps : List Pt) : Prop where
  row : w.ownsRow B 47 5 v ps.length (pcells ps)
  lt : ∀ b ∈ M, b < B
theorem OwnP.nil (w : World) (B : Nat) (M : List Nat) (hM : ∀ b ∈ M, b < B) : OwnP w B M (.slice none 0 0) [] := ⟨World.ownsRow_nil _ _ _ _, hM⟩
theorem ownsRow_keepP {w w' : World} {B : Nat} {e : TypeId} {s n : Nat} {v : Value} {xs : List Value} {S : List Nat} (h : w.ownsRow B e s v n xs) (k : Keeps S w w') (hs : ∀ b, v.ownBlock = some b → b ∉ S) : w'.ownsRow B e s v n xs := by
  rcases h.2 with ⟨rfl, h0⟩ | ⟨g, cap, cur, rfl, hb, hg, hnc, hcm, hcs, ht⟩
  · exact ⟨h.1, .inl ⟨rfl, h0⟩⟩
  · exact ⟨h.1, .inr ⟨g, cap, cur, rfl, hb, (k.block g (lt_of_block hg) (hs g rfl)).trans hg, hnc, hcm, hcs, ht⟩⟩
theorem OwnP.blk {w B M v ps} (h : OwnP w B M v ps) : ∀ k, v.ownBlock = some k → B ≤ k ∧ k < w.heap.size := h.row.lt
theorem OwnP.keep {w w' : World} {B : Nat} {M S : List Nat} {v : Value} {ps : List Pt} (h : OwnP w B M v ps) (k : Keeps S w w') (hs : ∀ b ∈ S, b ∈ M) : OwnP w' B M v ps :=
  ⟨ownsRow_keepP h.row k (fun b hb hm => by have := (h.blk b hb).1; have := h.lt b (hs b hm); omega), h.lt⟩
theorem OwnP.later {w w' : World} {B : Nat} {M : List Nat} {v : Value} {ps : List Pt} (h : OwnP w B M v ps) (k : Keeps [] w w') : OwnP w' B M v ps := h.keep k (by simp)
theorem OwnP.shape {w B M v ps} (h : OwnP w B M v ps) : ∃ a c, v = .slice a ps.length c := by
  rcases h.row.2 with ⟨rfl, e⟩ | ⟨g, cap, cur, rfl, _⟩
  · exact ⟨none, 0, by rw [e]⟩
  · exact ⟨_, cap, rfl⟩
theorem OwnP.at {w B M v ps} (h : OwnP w B M v ps) : PtsAt w M v ps := by
  rcases h.row.2 with ⟨rfl, h0⟩ | ⟨g, cap, cur, rfl, hb, hg, hnc, hcm, hcs, ht⟩
  · rw [List.eq_nil_of_length_eq_zero h0]
    exact PtsAt.nil w M
  · refine ⟨_, cap, rfl, hnc, hcm, by simp, fun ad had => ⟨g, 0, (Option.some.inj had).symm, lt_of_block hg, fun hm => by have := h.lt g hm; omega, fun j u hu => ?_⟩⟩
    have := h.row.cells (g := g) rfl j u hu
    rw [Addr.add_lit] at this
    exact this

/-- append of pointers onto pointers of the call's own. -/
theorem append_pts {w : World} {B : Nat} {M N : List Nat} {v : Value} {ps es : List Pt} (h : OwnP w B M v ps) (A : Option Addr) (n c : Nat) (hs : PtsAt w N (.slice A n c) es) (hl : ps.length + es.length ≤ 100000) (hB : B ≤ w.heap.size) (ty : TypeId) :
    ∃ a' c' w', (Builtin.append_ #[39, 39] ty #[v, .slice A n c]).run Try.prog w = .ok (.slice a' (ps.length + n) c') w' ∧ OwnP w' B M (.slice a' (ps.length + n) c') (ps ++ es) ∧ Keeps v.ownBlock.toList w w' := by
  obtain ⟨i, hi, hz, hz3, hz40⟩ := info_parts iPtr
  obtain ⟨a0, c0, hv0, h1, h2, h0, h4⟩ := id hs
  injection hv0 with e1 e2 e3
  subst e1; subst e2; subst e3
  obtain ⟨a', c', w', hr, ho, hg, hn⟩ := run_append_rowsO (P := Try.prog) w B 39 ty 47 i _ 5 40 Try.underlying39 hi hz hz3 hz40 rfl (by omega) v ps.length (pcells ps) h.row A es.length c (pcells es) (pcells_length es) h0 h1
    (fun ad had j u hu => hs.cells ad had j u hu) (pcells_one es) (by unfold maxLen; omega) (by omega) hB
  exact ⟨a', c', w', hr, ⟨by rw [List.length_append, pcells_append]; exact ho, h.lt⟩, (Keeps.refl _ _).grown hg (fun k hk => Or.inl (by simp [hk]))⟩

theorem zeros_pts (m : Nat) : (Builtin.zeroCells (ptV pZ).cells m).toList = pcells (List.replicate m pZ) := by
  have e : (ptV pZ).cells = #[.int .i64 0, .int .i64 0, .int .i64 0, .int .i64 0, .int .i64 0] := rfl
  rw [e]
  apply List.ext_getElem?
  intro j
  simp only [Builtin.zeroCells, Array.toList_map, Array.toList_range, List.getElem?_map]
  have hsz : (#[Value.int .i64 0, .int .i64 0, .int .i64 0, .int .i64 0, .int .i64 0] : Array Value).size = 5 := rfl
  rw [hsz]
  by_cases h : j < m * 5
  · rw [List.getElem?_range h]
    have hi : j / 5 < m := by omega
    have hj : j % 5 < 5 := Nat.mod_lt _ (by omega)
    have e2 := pcells_in (List.replicate m pZ) (j / 5) (by simpa using hi) (j % 5) hj
    rw [show j / 5 * 5 + j % 5 = j by omega] at e2
    rw [e2, List.getElem_replicate, Option.map_some]
    generalize j % 5 = k at hj
    match k, hj with
    | 0, _ => rfl
    | 1, _ => rfl
    | 2, _ => rfl
    | 3, _ => rfl
    | 4, _ => rfl
  · rw [List.getElem?_eq_none (by simpa using h), List.getElem?_eq_none (by rw [pcells_length]; simpa using h)]
    rfl

/-- append of so many noughts onto pointers without room behind them. -/
theorem append_make (w : World) (M : List Nat) (hM : ∀ b ∈ M, b < w.heap.size) (ty : TypeId) (a : Option Addr) (ps : List Pt) (m : Nat) (h : PtsAt w M (.slice a ps.length ps.length) ps) (hb : ps.length + m ≤ 1000) :
    ∃ a' c' w', (Builtin.append_ #[39, 3] ty #[.slice a ps.length ps.length, .int .i64 (m : Int)]).run Try.prog w = .ok (.slice a' (ps.length + m) c') w' ∧ PtsAt w' M (.slice a' (ps.length + m) c') (ps ++ List.replicate m pZ) ∧ Keeps [] w w' := by
  obtain ⟨i, hi, hz, hz5, hz40⟩ := info_parts iPtr
  have hw : IntKind.i64.wrap (m : Int) = (m : Int) := IntWalk.i64_in _ (by omega)
  have hn0 : ¬ ((m : Int) < 0) := by omega
  have hn1 : ¬ (281474976710656 < (m : Int) * 40) := by omega
  have hw0 : IntKind.i64.wrap (0 : Int) = 0 := by decide
  have uI : Try.prog.underlying 3 = some (.int .i64) := by kernel_rfl
  by_cases hm : m = 0
  · subst hm
    refine ⟨a, ps.length, w, ?_, by simpa using h, Keeps.refl _ _⟩
    cases a with
    | none => simp [Builtin.append_, run_underlying Try.underlying39, run_underlying uI, sizeOf, typeInfo, zeroValue, hi, hz, hz5, hz40, asInt, asIntOf, hw0]
    | some ad => simp [Builtin.append_, run_underlying Try.underlying39, run_underlying uI, sizeOf, typeInfo, zeroValue, hi, hz, hz5, hz40, asInt, asIntOf, hw0, storeCells]
  · have hg : ¬ (ps.length + m ≤ ps.length) := by omega
    have hk := grownCap_ge w (ps.length + m) ps.length 47
    have hcm : grownCap w (ps.length + m) ps.length 47 ≤ maxLen := grownCap_le_maxLen w _ _ _ (by unfold maxLen; omega)
    have hfit : ¬ (281474976710656 < Builtin.nextslicecap (ps.length + m) ps.length * 40) := by have := nextslicecap_le (need := ps.length + m) (old := ps.length) (by omega); omega
    have h63' : ¬ (9223372036854775807 < ((ps.length : Int) + (m : Int))) := by omega
    have hm5 : ¬ (m = 0 ∨ 5 = 0) := by omega
    have hf : (Builtin.firstCells 5 ps.length (.slice a ps.length ps.length)).run Try.prog w.drew = .ok (pcells ps).toArray w.drew := by
      cases a with
      | none =>
        obtain ⟨a', cap', hv, h1, h2, h0, h4⟩ := h
        injection hv with e1 e2 e3
        have : ps.length = 0 := by rw [e3]; exact h0 e1.symm
        rw [List.eq_nil_of_length_eq_zero this]
        simp [Builtin.firstCells, pcells]
      | some ad =>
        exact run_firstCells_some (P := Try.prog) w.drew 5 ps.length ad ps.length ps.length (pcells ps) (pcells_length ps) (fun j v hj => by rw [World.cell?_drew]; exact h.cells ad rfl j v hj)
    refine ⟨some ⟨w.heap.size, 0, none⟩, grownCap w (ps.length + m) ps.length 47, w.drew.alloc (.cells ((pcells ps).toArray ++ Builtin.zeroCells (ptV pZ).cells m ++ Builtin.zeroCells (ptV pZ).cells (grownCap w (ps.length + m) ps.length 47 - (ps.length + m))) 47), ?_, ?_, ((Keeps.refl [] w).drew).alloc _⟩
    · simp [Builtin.append_, run_underlying Try.underlying39, run_underlying uI, sizeOf, typeInfo, zeroValue, hi, hz, hz5, hz40, asInt, asIntOf, hw, hn0, hn1, hg, h63', hfit, hm5, Question.forced, hf, newRow, grownCap]
      intro h0; omega
    · refine ⟨_, _, by simp, by simpa using hk, hcm, by simp, fun ad had => ⟨w.heap.size, 0, (Option.some.inj had).symm, by simp, fun hmm => by have := hM _ hmm; omega, fun j u hu => ?_⟩⟩
      have hb2 := heap_alloc_new w.drew (.cells ((pcells ps).toArray ++ Builtin.zeroCells (ptV pZ).cells m ++ Builtin.zeroCells (ptV pZ).cells (grownCap w (ps.length + m) ps.length 47 - (ps.length + m))) 47)
      have hs2 : w.drew.heap.size = w.heap.size := rfl
      rw [hs2] at hb2
      rw [cell_of_row _ _ _ _ _ _ hb2, Nat.zero_add, ← Array.getElem?_toList, Array.toList_append, Array.toList_append, zeros_pts]
      rw [List.getElem?_append_left (by
        have := (List.getElem?_eq_some_iff.1 hu).1
        rw [pcells_append] at this
        simpa using this)]
      rw [pcells_append] at hu
      simpa using hu
end Go.Proofs.Ytamcllcjondcpaa
