/- BkA, BkB, BkC, BkD. -/
import Derived.Test.YtoglcohdanpciaaJK
import Derived.Laws.StructEq
import Derived.Deep.MidRow
import Derived.Shelf.SlicesQ.Contains
/- blocks: pointers, rows of pointers in memory; append of pointers. -/
namespace Go.Proofs.Ytoglcohdanpciaa
open Go.RowKit Go.Shelf
set_option maxRecDepth 100000
set_option linter.unusedSimpArgs false

structure Pt where
  c : Int
  l : Int
  n : Int
  a : Int
  k : Int
deriving DecidableEq, Inhabited
def Pt.cells (x : Pt) : List Value := [.int .i64 x.c, .int .i64 x.l, .int .i64 x.n, .int .i64 x.a, .int .i64 x.k]
def ptV (x : Pt) : Value := .agg x.cells.toArray
def pZ : Pt := ⟨0, 0, 0, 0, 0⟩
def pcells (ps : List Pt) : List Value := ps.flatMap Pt.cells
theorem pcells_length (ps : List Pt) : (pcells ps).length = ps.length * 5 := by
  induction ps with
  | nil => rfl
  | cons d ds ih => simp only [pcells, List.flatMap_cons, List.length_append, Pt.cells, List.length_cons, List.length_nil] at *; omega
theorem pcells_append (a b : List Pt) : pcells (a ++ b) = pcells a ++ pcells b := by simp [pcells]
theorem pcells_cons (m : Pt) (b : List Pt) : pcells (m :: b) = m.cells ++ pcells b := by simp [pcells]
theorem pcells_in : ∀ (ds : List Pt) (i : Nat) (h : i < ds.length) (j : Nat), j < 5 → (pcells ds)[i * 5 + j]? = ds[i].cells[j]?
  | d :: ds, 0, _, j, hj => by
    rw [pcells_cons, Nat.zero_mul, Nat.zero_add, List.getElem?_append_left (by simpa [Pt.cells] using hj)]
    rfl
  | d :: ds, i + 1, h, j, hj => by
    have ih := pcells_in ds i (by simpa using h) j hj
    rw [pcells_cons, List.getElem?_append_right (by simp [Pt.cells]; omega)]
    simp only [List.getElem_cons_succ]
    rw [← ih]
    congr 1
    simp [Pt.cells]
    omega
theorem pcells_take (ms : List Pt) (n : Nat) : pcells (ms.take n) = (pcells ms).take (n * 5) := by
  induction ms generalizing n with
  | nil => simp [pcells]
  | cons m ms ih =>
    cases n with
    | zero => simp [pcells]
    | succ n =>
      rw [List.take_succ_cons, pcells_cons, pcells_cons, ih, show (n + 1) * 5 = n * 5 + 5 by omega]
      rfl
theorem pcells_drop (ms : List Pt) (n : Nat) : pcells (ms.drop n) = (pcells ms).drop (n * 5) := by
  induction ms generalizing n with
  | nil => simp [pcells]
  | cons m ms ih =>
    cases n with
    | zero => simp [pcells]
    | succ n =>
      rw [List.drop_succ_cons, pcells_cons, ih, show (n + 1) * 5 = n * 5 + 5 by omega]
      rfl
theorem pcells_one (ds : List Pt) : ∀ u ∈ pcells ds, u.oneCell' = true := by
  intro u hu
  simp only [pcells, List.mem_flatMap] at hu
  obtain ⟨d, hd, hm⟩ := hu
  simp [Pt.cells] at hm
  rcases hm with rfl | rfl | rfl | rfl | rfl <;> rfl
theorem cells_one (x : Pt) : x.cells.toArray.all (·.oneCell') = true := by simp [Pt.cells, Value.oneCell']

theorem iPtr : (Try.prog.info? 147).map (fun i => (i.zero, i.size, i.bytes)) = some (some (ptV pZ), 5, 40) := by kernel_rfl
theorem iPtr2 : (Try.prog.info? 147).map (fun i => (i.zero, i.size)) = some (some (ptV pZ), 5) := by kernel_rfl
theorem sPtr : (Try.prog.info? 147).map (·.size) = some 5 := by kernel_rfl
theorem uPtr : Try.prog.underlying 147 = some (.struct (Try.prog.fieldsOf 147)) := by kernel_rfl
theorem size_ptr (W : World) : (sizeOf 147).run Try.prog W = .ok 5 W := by
  obtain ⟨i0, hi, hz0, hz1, hz2⟩ := info_parts iPtr
  simp [sizeOf, typeInfo, hi, hz1, Result.andThen]

/-- A slice of pointers, to be read; it lies in none of the blocks of M. -/
def PtsAt (w : World) (M : List Nat) (v : Value) (ps : List Pt) : Prop :=
  ∃ (a : Option Addr) (cap : Nat), v = .slice a ps.length cap ∧ ps.length ≤ cap ∧ cap ≤ maxLen ∧ (a = none → cap = 0) ∧
    (∀ ad, a = some ad → ∃ g off, ad = ⟨g, off, none⟩ ∧ g < w.heap.size ∧ g ∉ M ∧ w.rangeAt g off (pcells ps))
theorem PtsAt.nil (w : World) (M : List Nat) : PtsAt w M (.slice none 0 0) [] := ⟨none, 0, rfl, by simp, by simp, fun _ => rfl, fun _ h => by cases h⟩
theorem PtsAt.keep {w w' : World} {M S : List Nat} {v : Value} {ps : List Pt} (h : PtsAt w M v ps) (k : Keeps S w w') (hs : ∀ b ∈ S, b ∈ M) : PtsAt w' M v ps := by
  obtain ⟨a, cap, rfl, h1, h2, h0, h4⟩ := h
  refine ⟨a, cap, rfl, h1, h2, h0, fun ad had => ?_⟩
  obtain ⟨g, off, rfl, hg, hM, hc⟩ := h4 ad had
  exact ⟨g, off, rfl, Nat.lt_of_lt_of_le hg k.size, hM, fun j u hu => k.cell' (hc j u hu) (fun hm => hM (hs _ hm))⟩
theorem PtsAt.later {w w' : World} {M : List Nat} {v : Value} {ps : List Pt} (h : PtsAt w M v ps) (k : Keeps [] w w') : PtsAt w' M v ps := h.keep k (by simp)
theorem PtsAt.more {w : World} {M N : List Nat} {v : Value} {ps : List Pt} (h : PtsAt w M v ps) (hN : ∀ b ∈ N, b ∈ M ∨ w.heap.size ≤ b) : PtsAt w N v ps := by
  obtain ⟨a, cap, rfl, h1, h2, h0, h4⟩ := h
  refine ⟨a, cap, rfl, h1, h2, h0, fun ad had => ?_⟩
  obtain ⟨g, off, rfl, hg, hM, hc⟩ := h4 ad had
  exact ⟨g, off, rfl, hg, fun hm => by
    rcases hN g hm with h | h
    · exact hM h
    · omega, hc⟩
theorem PtsAt.shape {w : World} {M : List Nat} {v : Value} {ps : List Pt} (h : PtsAt w M v ps) : ∃ a c, v = .slice a ps.length c := by
  obtain ⟨a, cap, rfl, _⟩ := h
  exact ⟨a, cap, rfl⟩
theorem PtsAt.two {w : World} {M : List Nat} {v : Value} {ps : List Pt} (h : PtsAt w M v ps) : (v = .slice none 0 0 ∧ ps = []) ∨ ∃ g off cap, v = .slice (some ⟨g, off, none⟩) ps.length cap ∧ ps.length ≤ cap ∧ cap ≤ maxLen ∧ g < w.heap.size ∧ g ∉ M ∧ w.rangeAt g off (pcells ps) := by
  obtain ⟨a, cap, rfl, h1, h2, h0, h4⟩ := h
  cases a with
  | none =>
    obtain rfl := h0 rfl
    have : ps = [] := List.eq_nil_of_length_eq_zero (by omega)
    subst this
    exact Or.inl ⟨rfl, rfl⟩
  | some ad =>
    obtain ⟨g, off, rfl, hg, hM, hc⟩ := h4 ad rfl
    exact Or.inr ⟨g, off, cap, rfl, h1, h2, hg, hM, hc⟩
theorem PtsAt.open {w : World} {M : List Nat} {a : Option Addr} {n cap : Nat} {ps : List Pt} (h : PtsAt w M (.slice a n cap) ps) (hne : 0 < ps.length) :
    ∃ g off, a = some ⟨g, off, none⟩ ∧ n = ps.length ∧ ps.length ≤ cap ∧ g < w.heap.size ∧ g ∉ M ∧ w.rangeAt g off (pcells ps) := by
  rcases h.two with ⟨_, rfl⟩ | ⟨g, off, cap', hv, h1, h2, hg, hM, hc⟩
  · simp at hne
  · injection hv with e1 e2 e3
    subst e1; subst e2; subst e3
    exact ⟨g, off, rfl, rfl, h1, hg, hM, hc⟩
theorem range_pt {w : World} {g off : Nat} {ps : List Pt} (h : w.rangeAt g off (pcells ps)) (i : Nat) (hi : i < ps.length) : w.rangeAt g (off + i * 5) ps[i].cells := fun j u hu => by
  have hj : j < 5 := by
    have := (List.getElem?_eq_some_iff.1 hu).1
    simpa [Pt.cells] using this
  have := h (i * 5 + j) u (by rw [pcells_in ps i hi j hj]; exact hu)
  rwa [← Nat.add_assoc] at this
theorem PtsAt.cells {w : World} {M : List Nat} {a : Option Addr} {n c : Nat} {ps : List Pt} (h : PtsAt w M (.slice a n c) ps) : ∀ ad, a = some ad → ∀ j u, (pcells ps)[j]? = some u → w.cell? (ad.add j) = some u := by
  rintro ad had j u hu
  have hne : 0 < ps.length := by
    cases ps with
    | nil => simp [pcells] at hu
    | cons _ _ => simp
  obtain ⟨g, off, e, _, _, _, _, hc⟩ := h.open hne
  rw [had] at e
  obtain rfl := Option.some.inj e
  rw [Addr.add_lit]
  exact hc j u hu

/-- Pointers of the call's own. -/
structure OwnP (w : World) (B : Nat) (M : List Nat) (v : Value) (ps : List Pt) : Prop where
  row : w.ownsRow B 147 5 v ps.length (pcells ps)
  lt : ∀ b ∈ M, b < B
theorem OwnP.nil (w : World) (B : Nat) (M : List Nat) (hM : ∀ b ∈ M, b < B) : OwnP w B M (.slice none 0 0) [] := ⟨World.ownsRow_nil _ _ _ _, hM⟩
theorem ownsRow_keepP {w w' : World} {B : Nat} {e : TypeId} {s n : Nat} {v : Value} {xs : List Value} {S : List Nat} (h : w.ownsRow B e s v n xs) (k : Keeps S w w') (hs : ∀ b, v.ownBlock = some b → b ∉ S) : w'.ownsRow B e s v n xs := by
  rcases h.2 with ⟨rfl, h0⟩ | ⟨g, cap, cur, rfl, hb, hg, hnc, hcm, hcs, ht⟩
  · exact ⟨h.1, .inl ⟨rfl, h0⟩⟩
  · exact ⟨h.1, .inr ⟨g, cap, cur, rfl, hb, (k.block g (lt_of_block hg) (hs g rfl)).trans hg, hnc, hcm, hcs, ht⟩⟩
theorem OwnP.blk {w B M v ps} (h : OwnP w B M v ps) : ∀ k, v.ownBlock = some k → B ≤ k ∧ k < w.heap.size := h.row.lt
theorem OwnP.keep {w w' : World} {B : Nat} {M S : List Nat} {v : Value} {ps : List Pt} (h : OwnP w B M v ps) (k : Keeps S w w') (hs : ∀ b ∈ S, b ∈ M) : OwnP w' B M v ps :=
  ⟨ownsRow_keepP h.row k (fun b hb hm => by have := (h.blk b hb).1; have := h.lt b (hs b hm); omega), h.lt⟩
theorem OwnP.later {w w' : World} {B : Nat} {M : List Nat} {v : Value} {ps : List Pt} (h : OwnP w B M v ps) (k : Keeps [] w w') : OwnP w' B M v ps := h.keep k (by simp)
theorem OwnP.shape {w B M v ps} (h : OwnP w B M v ps) : ∃ a c, v = .slice a ps.length c := by
  rcases h.row.2 with ⟨rfl, e⟩ | ⟨g, cap, cur, rfl, _⟩
  · exact ⟨none, 0, by rw [e]⟩
  · exact ⟨_, cap, rfl⟩
theorem OwnP.at {w B M v ps} (h : OwnP w B M v ps) : PtsAt w M v ps := by
  rcases h.row.2 with ⟨rfl, h0⟩ | ⟨g, cap, cur, rfl, hb, hg, hnc, hcm, hcs, ht⟩
  · rw [List.eq_nil_of_length_eq_zero h0]
    exact PtsAt.nil w M
  · refine ⟨_, cap, rfl, hnc, hcm, by simp, fun ad had => ⟨g, 0, (Option.some.inj had).symm, lt_of_block hg, fun hm => by have := h.lt g hm; omega, fun j u hu => ?_⟩⟩
    have := h.row.cells (g := g) rfl j u hu
    rw [Addr.add_lit] at this
    exact this

theorem zeros_pts (m : Nat) : (Builtin.zeroCells (ptV pZ).cells m).toList = pcells (List.replicate m pZ) := by
  have e : (ptV pZ).cells = #[.int .i64 0, .int .i64 0, .int .i64 0, .int .i64 0, .int .i64 0] := rfl
  rw [e]
  apply List.ext_getElem?
  intro j
  simp only [Builtin.zeroCells, Array.toList_map, Array.toList_range, List.getElem?_map]
  have hsz : (#[Value.int .i64 0, .int .i64 0, .int .i64 0, .int .i64 0, .int .i64 0] : Array Value).size = 5 := rfl
  rw [hsz]
  by_cases h : j < m * 5
  · rw [List.getElem?_range h]
    have hi : j / 5 < m := by omega
    have hj : j % 5 < 5 := Nat.mod_lt _ (by omega)
    have e2 := pcells_in (List.replicate m pZ) (j / 5) (by simpa using hi) (j % 5) hj
    rw [show j / 5 * 5 + j % 5 = j by omega] at e2
    rw [e2, List.getElem_replicate, Option.map_some]
    generalize j % 5 = k at hj
    match k, hj with
    | 0, _ => rfl
    | 1, _ => rfl
    | 2, _ => rfl
    | 3, _ => rfl
    | 4, _ => rfl
  · rw [List.getElem?_eq_none (by simpa using h), List.getElem?_eq_none (by rw [pcells_length]; simpa using h)]
    rfl

end Go.Proofs.Ytoglcohdanpciaa


/- blocks: pointers are compared; isZero, within, May. -/
namespace Go.Proofs.Ytoglcohdanpciaa
open Go.RowKit Go.Shelf
set_option maxRecDepth 100000
set_option linter.unusedSimpArgs false

def eqP (a b : Pt) : Bool := decide (a = b)
def zB (x : Pt) : Bool := decide (x = pZ)
/-- May the pointer be? -/
def mayP (x : Pt) : Bool := zB x || (btw x.c 0 4 && btw x.l 0 1048576 && btw x.n 0 1073741824 && btw x.a 0 5999 && btw x.k 1 (min 64 (6000 - x.a)))
theorem zB_is {x : Pt} : zB x = true ↔ x = pZ := by simp [zB]

theorem eqPts (w : World) (a b : Pt) : (binOp .eql 147 (ptV a) (ptV b)).run Try.prog w = .ok (.bool (a.c == b.c && a.l == b.l && a.n == b.n && a.a == b.a && a.k == b.k)) w := by
  have f1 : Try.prog.underlying 147 = some (.struct (Try.prog.fieldsOf 147)) := by kernel_rfl
  have f2 : Try.prog.underlying 30 = some (.struct (Try.prog.fieldsOf 30)) := by kernel_rfl
  have p1 : ∀ (z : Pt) w, (part 30 #[.int .i64 z.c, .int .i64 z.l, .int .i64 z.n, .int .i64 z.a, .int .i64 z.k] 0).run Try.prog w = .ok (.agg #[.int .i64 z.c, .int .i64 z.l, .int .i64 z.n]) w := fun z w => by kernel_rfl
  have p3 : ∀ (z : Pt) w, (part 3 #[.int .i64 z.c, .int .i64 z.l, .int .i64 z.n, .int .i64 z.a, .int .i64 z.k] 3).run Try.prog w = .ok (.int .i64 z.a) w := fun z w => by kernel_rfl
  have p4 : ∀ (z : Pt) w, (part 3 #[.int .i64 z.c, .int .i64 z.l, .int .i64 z.n, .int .i64 z.a, .int .i64 z.k] 4).run Try.prog w = .ok (.int .i64 z.k) w := fun z w => by kernel_rfl
  have q : ∀ (x y z : Int), (∀ w, (part 3 #[.int .i64 x, .int .i64 y, .int .i64 z] 0).run Try.prog w = .ok (.int .i64 x) w) ∧ (∀ w, (part 3 #[.int .i64 x, .int .i64 y, .int .i64 z] 1).run Try.prog w = .ok (.int .i64 y) w) ∧ (∀ w, (part 3 #[.int .i64 x, .int .i64 y, .int .i64 z] 2).run Try.prog w = .ok (.int .i64 z) w) := fun x y z => ⟨fun w => by kernel_rfl, fun w => by kernel_rfl, fun w => by kernel_rfl⟩
  have u : Try.prog.underlying 3 = some (.int .i64) := by kernel_rfl
  have i : ∀ (d : Nat) (x y : Int) (w : World), (Op.equalIn (d + 1) 3 (.int .i64 x) (.int .i64 y)).run Try.prog w = .ok (x == y) w := fun d x y w => run_equalIn_int w d 3 .i64 .i64 x y u
  have i8 : ∀ (x y : Int) (w : World), (Op.equalIn 9998 3 (.int .i64 x) (.int .i64 y)).run Try.prog w = .ok (x == y) w := i 9997
  have i9 : ∀ (x y : Int) (w : World), (Op.equalIn 9999 3 (.int .i64 x) (.int .i64 y)).run Try.prog w = .ok (x == y) w := i 9998
  have g1 : (Try.prog.fieldsOf 147).toList.map (fun f => (f.name != "_", f.type, f.offset)) = [(true, 30, 0), (true, 3, 3), (true, 3, 4)] := by kernel_rfl
  have g2 : (Try.prog.fieldsOf 30).toList.map (fun f => (f.name != "_", f.type, f.offset)) = [(true, 3, 0), (true, 3, 1), (true, 3, 2)] := by kernel_rfl
  have S : ∀ w, (Op.equalIn 9999 30 (.agg #[.int .i64 a.c, .int .i64 a.l, .int .i64 a.n]) (.agg #[.int .i64 b.c, .int .i64 b.l, .int .i64 b.n])).run Try.prog w = .ok (a.c == b.c && a.l == b.l && a.n == b.n) w := fun w => by
    rw [run_equalIn_agg w 9998 30 _ _ f2 (by kernel_rfl)]
    generalize (Try.prog.fieldsOf 30).toList = fs at g2 ⊢
    obtain ⟨x, y, z, rfl⟩ : ∃ x y z, fs = [x, y, z] := by
      have hl := congrArg List.length g2
      rw [List.length_map] at hl
      match fs, hl with
      | [x, y, z], _ => exact ⟨x, y, z, rfl⟩
    · clear g1
      simp only [List.map_cons, List.map_nil, List.cons.injEq, Prod.mk.injEq, and_true, bne_iff_ne] at g2
      obtain ⟨⟨n1, t1, o1⟩, ⟨n2, t2, o2⟩, n3, t3, o3⟩ := g2
      cases h1 : a.c == b.c <;> cases h2 : a.l == b.l <;> cases h3 : a.n == b.n <;>
        simp only [Op.eqFields, n1, n2, n3, t1, t2, t3, o1, o2, o3, (q _ _ _).1, (q _ _ _).2.1, (q _ _ _).2.2, i8, h1, h2, h3, if_true, if_false, Bool.not_true, Bool.not_false, Bool.false_eq_true, Sem.run_bind, Sem.run_ite, Sem.run_pure, Result.andThen_ok, ne_eq, not_false_eq_true, Bool.and_true, Bool.and_false, Bool.false_and, Bool.true_and]
  unfold ptV Pt.cells
  rw [run_eql_struct, run_equalIn_agg w 9999 147 _ _ f1 (by kernel_rfl)]
  generalize (Try.prog.fieldsOf 147).toList = fs at g1 ⊢
  obtain ⟨x, y, v, rfl⟩ : ∃ x y v, fs = [x, y, v] := by
    have hl := congrArg List.length g1
    rw [List.length_map] at hl
    match fs, hl with
    | [x, y, v], _ => exact ⟨x, y, v, rfl⟩
  · clear g2
    simp only [List.map_cons, List.map_nil, List.cons.injEq, Prod.mk.injEq, and_true, bne_iff_ne] at g1
    obtain ⟨⟨n1, t1, o1⟩, ⟨n2, t2, o2⟩, n3, t3, o3⟩ := g1
    cases h1 : (a.c == b.c && a.l == b.l && a.n == b.n) <;> cases h2 : a.a == b.a <;> cases h3 : a.k == b.k <;>
      simp only [Op.eqFields, n1, n2, n3, t1, t2, t3, o1, o2, o3, p1, p3, p4, S, h1, h2, h3, i9, if_true, if_false, Bool.not_true, Bool.not_false, Bool.false_eq_true, Sem.run_bind, Sem.run_ite, Sem.run_pure, Result.andThen_ok, ne_eq, not_false_eq_true, Bool.and_true, Bool.and_false, Bool.false_and, Bool.true_and]
theorem eqPts_is (a b : Pt) : (a.c == b.c && a.l == b.l && a.n == b.n && a.a == b.a && a.k == b.k) = eqP a b := by
  obtain ⟨a1, a2, a3, a4, a5⟩ := a
  obtain ⟨b1, b2, b3, b4, b5⟩ := b
  unfold eqP
  simp only [Pt.mk.injEq]
  rw [Bool.eq_iff_iff]
  simp [and_assoc]
theorem guardPt (w : World) (op : BinOp) (x y : Operand) (a b : Pt) : (eqGuard op 147 x y (ptV a) (ptV b)).run Try.prog w = .ok () w := run_eqGuard_agg w op 147 x y _ _ (by kernel_rfl)
theorem exec_eqPts {ρ : Operand → Value} {o : Oper} {w : World} (x y : Operand) (u : TypeId) (a b : Pt) (ho : o.op = .binOp .eql 147 x y u) (hx : ρ x = ptV a) (hy : ρ y = ptV b) : (execOp ρ o).run Try.prog w = .ok (.value (.bool (eqP a b))) w := by
  have hg := guardPt w .eql x y a b
  simp only [execOp, ho, hx, hy, Sem.run_bind, hg, eqPts, eqPts_is, Result.andThen_ok, Sem.run_pure]
theorem exec_neqPts {ρ : Operand → Value} {o : Oper} {w : World} (x y : Operand) (u : TypeId) (a b : Pt) (ho : o.op = .binOp .neq 147 x y u) (hx : ρ x = ptV a) (hy : ρ y = ptV b) : (execOp ρ o).run Try.prog w = .ok (.value (.bool (!eqP a b))) w := by
  have hg := guardPt w .neq x y a b
  have hr := eqPts w a b
  unfold ptV at hr
  rw [run_eql_struct] at hr
  have hn : (binOp .neq 147 (ptV a) (ptV b)).run Try.prog w = .ok (.bool (!eqP a b)) w := by
    unfold ptV
    rw [run_neq_struct]
    cases hq : (Op.equalIn 10000 147 (.agg a.cells.toArray) (.agg b.cells.toArray)).run Try.prog w with
    | ok x w' =>
      rw [hq] at hr
      simp [Result.andThen] at hr ⊢
      rw [← eqPts_is]
      exact ⟨by rw [hr.1], hr.2⟩
    | _ => rw [hq] at hr; simp [Result.andThen] at hr
  simp only [execOp, ho, hx, hy, Sem.run_bind, hg, hn, Result.andThen_ok, Sem.run_pure]
theorem eqlAtPt : EqlAt Try.prog 147 (fun x : Pt => .agg x.cells.toArray) eqP := ⟨fun x y w => by have := eqPts w x y; rw [eqPts_is] at this; exact this, fun op a b x y w => guardPt w op a b x y⟩

theorem loadPt_run (W : World) (b off : Nat) (x : Pt) (hc : W.rangeAt b off x.cells) : (Instr.loadAt 147 (.pointer (some ⟨b, off, none⟩))).run Try.prog W = .ok (ptV x) W :=
  run_loadAt_mid W b off 147 x.cells _ hc uPtr rfl (by rw [sPtr]; rfl)
theorem buildPtZ (w : World) : (Instr.build 147 #[]).run Try.prog w = .ok (ptV pZ) w := by kernel_rfl
theorem exec_buildPtZ {ρ : Operand → Value} {o : Oper} {w : World} (ho : o.op = .build 147 #[]) : (execOp ρ o).run Try.prog w = .ok (.value (ptV pZ)) w := by
  simp only [execOp, ho, List.map_toArray, List.map_nil, Sem.run_bind, buildPtZ, Result.andThen_ok, Sem.run_pure]
section
variable {ops : Array Oper} {rest : List Oper} {o : Oper} {a : Act} {w : World} {Q : Exit → Act → World → Prop}
theorem wpList_loadPt (hgd : o.guard = none) (x : Operand) (ho : o.op = .load 147 x) (b off : Nat) (hx : a.eval x = .pointer (some ⟨b, off, none⟩)) (t : Pt) (hc : w.rangeAt b off t.cells)
    (hk : wpList Try.prog ops Q rest (a.put o.dst (ptV t)) w) : wpList Try.prog ops Q (o :: rest) a w :=
  wpList_load_mid hgd _ x ho b off hx t.cells _ hc uPtr rfl (by rw [sPtr]; rfl) hk
theorem wpList_boxPt (hgd : o.guard = none) (x : Operand) (ho : o.op = .box 147 x) (t : Pt) (hx : a.eval x = ptV t)
    (hk : wpList Try.prog ops Q rest (a.put o.dst (.pointer (some ⟨w.heap.size, 0, none⟩))) (w.alloc (.cells t.cells.toArray 147))) : wpList Try.prog ops Q (o :: rest) a w :=
  wpList_is hgd _ _ (exec_box 147 x _ hx ho) hk
end
theorem range_new (w : World) (cs : List Value) (T : TypeId) : (w.alloc (.cells cs.toArray T)).rangeAt w.heap.size 0 cs := fun j v hv => by
  rw [Nat.zero_add, cell_of_row _ _ j _ _ (0, 0) (heap_alloc_new w _)]
  simpa using hv
theorem range_keep {w w' : World} {S : List Nat} {b off : Nat} {cs : List Value} (h : w.rangeAt b off cs) (k : Keeps S w w') (hs : b ∉ S) : w'.rangeAt b off cs := fun j v hv => k.cell' (h j v hv) hs
theorem range_at {w : World} {b off : Nat} {x : Pt} (h : w.rangeAt b off x.cells) : w.cell? ⟨b, off, none⟩ = some (.int .i64 x.c) ∧ w.cell? ⟨b, off + 1, none⟩ = some (.int .i64 x.l) ∧ w.cell? ⟨b, off + 2, none⟩ = some (.int .i64 x.n) ∧ w.cell? ⟨b, off + 3, none⟩ = some (.int .i64 x.a) ∧ w.cell? ⟨b, off + 4, none⟩ = some (.int .i64 x.k) :=
  ⟨h 0 _ rfl, h 1 _ rfl, h 2 _ rfl, h 3 _ rfl, h 4 _ rfl⟩

theorem isZero_any (w : World) (x : Pt) : Calls Try.prog 197 #[ptV x] w fun e w' => e = .returned (.bool (zB x)) ∧ Keeps [] w w' := by
  have HR := hid (range_new w x.cells 147)
  go_enter Try.func197, Try.ntmps197
  go_wp2_with (first | (refine wpList_boxPt rfl _ rfl x rfl ?_) | (refine wpList_loadPt rfl _ rfl w.heap.size 0 rfl x HR.out ?_) | (refine wpList_is rfl _ _ (exec_buildPtZ rfl) ?_) | (refine wpList_is rfl _ _ (exec_eqPts _ _ _ x pZ rfl rfl rfl) ?_) | fail)
  go_ret
  exact ⟨rfl, (Keeps.refl [] w).alloc _⟩

theorem bwithin_as (w : World) (x lo hi : Int) (b : Bool) (h : btw x lo hi = b) : Calls Try.prog 198 #[.int .i64 x, .int .i64 lo, .int .i64 hi] w fun e w' => e = .returned (.bool b) ∧ w = w' := by
  subst h
  unfold btw
  by_cases h0 : lo ≤ x
  · by_cases h1 : x ≤ hi
    · go_enter Try.func198, Try.ntmps198
      go_wp2_with fail
      go_ret
      exact ⟨by simp [h0, h1], rfl⟩
    · go_enter Try.func198, Try.ntmps198
      go_wp2_with fail
      go_ret
      exact ⟨by simp [h1], rfl⟩
  · go_enter Try.func198, Try.ntmps198
    go_wp2_with fail
    go_ret
    exact ⟨by simp; omega, rfl⟩
end Go.Proofs.Ytoglcohdanpciaa


/- blocks: May. -/
namespace Go.Proofs.Ytoglcohdanpciaa
open Go.RowKit Go.Shelf
set_option maxRecDepth 100000

set_option maxHeartbeats 1600000 in
theorem may11_any (w : World) (x : Pt) : Calls Try.prog 192 #[ptV x] w fun e w' => e = .returned (.bool (mayP x)) ∧ Keeps [] w w' := by
  have HR := hid (range_new w x.cells 147)
  have KB := hid ((Keeps.refl [] w).alloc (.cells x.cells.toArray 147))
  have HZ := hid (isZero_any (w.alloc (.cells x.cells.toArray 147)) x)
  have hsz : w.heap.size < (w.alloc (.cells x.cells.toArray 147)).heap.size := by simp
  have HS := hid hsz
  clear hsz
  obtain ⟨r, hr⟩ : ∃ r, r = mayP x := ⟨_, rfl⟩
  rw [← hr]
  have HM := hid hr
  clear hr
  cases h0 : zB x with
  | true =>
    rw [h0] at HZ
    have Z := hid h0
    clear h0
    go_enter Try.func192, Try.ntmps192
    go_wp2_with (first | (refine wpList_boxPt rfl _ rfl x rfl ?_) | (refine wpList_loadPt rfl _ rfl w.heap.size 0 rfl x HR.out ?_) | fail)
    refine HZ.out.mono ?_
    rintro e w2 ⟨rfl, k2⟩
    have K2 := hid (KB.out.trans k2)
    clear k2
    go_wp2_with fail
    go_ret
    exact ⟨by rw [HM.out]; unfold mayP; rw [Z.out]; rfl, K2.out⟩
  | false =>
    rw [h0] at HZ
    have Z := hid h0
    clear h0
    cases h0 : btw x.c 0 4 with
    | false =>
      have H0 := hid h0
      clear h0
      go_enter Try.func192, Try.ntmps192
      go_wp2_with (first | (refine wpList_boxPt rfl _ rfl x rfl ?_) | (refine wpList_loadPt rfl _ rfl w.heap.size 0 rfl x HR.out ?_) | fail)
      refine HZ.out.mono ?_
      rintro e w2 ⟨rfl, k2⟩
      have K2 := hid (KB.out.trans k2)
      obtain ⟨c0, c1, c2, c3, c4⟩ := range_at (range_keep HR.out k2 (by simp))
      simp only [Nat.zero_add] at c1 c2 c3 c4
      clear k2
      go_wp2_with fail
      refine (bwithin_as _ x.c 0 4 _ H0.out).mono ?_
      rintro e _ ⟨rfl, rfl⟩
      go_wp2_with fail
      go_ret
      exact ⟨by rw [HM.out]; unfold mayP; rw [Z.out, H0.out]; rfl, K2.out⟩
    | true =>
      have H0 := hid h0
      clear h0
      cases h1 : btw x.l 0 1048576 with
      | false =>
        have H1 := hid h1
        clear h1
        go_enter Try.func192, Try.ntmps192
        go_wp2_with (first | (refine wpList_boxPt rfl _ rfl x rfl ?_) | (refine wpList_loadPt rfl _ rfl w.heap.size 0 rfl x HR.out ?_) | fail)
        refine HZ.out.mono ?_
        rintro e w2 ⟨rfl, k2⟩
        have K2 := hid (KB.out.trans k2)
        obtain ⟨c0, c1, c2, c3, c4⟩ := range_at (range_keep HR.out k2 (by simp))
        simp only [Nat.zero_add] at c1 c2 c3 c4
        clear k2
        go_wp2_with fail
        refine (bwithin_as _ x.c 0 4 _ H0.out).mono ?_
        rintro e _ ⟨rfl, rfl⟩
        go_wp2_with fail
        refine (bwithin_as _ x.l 0 1048576 _ H1.out).mono ?_
        rintro e _ ⟨rfl, rfl⟩
        go_wp2_with fail
        go_ret
        exact ⟨by rw [HM.out]; unfold mayP; rw [Z.out, H0.out, H1.out]; rfl, K2.out⟩
      | true =>
        have H1 := hid h1
        clear h1
        cases h2 : btw x.n 0 1073741824 with
        | false =>
          have H2 := hid h2
          clear h2
          go_enter Try.func192, Try.ntmps192
          go_wp2_with (first | (refine wpList_boxPt rfl _ rfl x rfl ?_) | (refine wpList_loadPt rfl _ rfl w.heap.size 0 rfl x HR.out ?_) | fail)
          refine HZ.out.mono ?_
          rintro e w2 ⟨rfl, k2⟩
          have K2 := hid (KB.out.trans k2)
          obtain ⟨c0, c1, c2, c3, c4⟩ := range_at (range_keep HR.out k2 (by simp))
          simp only [Nat.zero_add] at c1 c2 c3 c4
          clear k2
          go_wp2_with fail
          refine (bwithin_as _ x.c 0 4 _ H0.out).mono ?_
          rintro e _ ⟨rfl, rfl⟩
          go_wp2_with fail
          refine (bwithin_as _ x.l 0 1048576 _ H1.out).mono ?_
          rintro e _ ⟨rfl, rfl⟩
          go_wp2_with fail
          refine (bwithin_as _ x.n 0 1073741824 _ H2.out).mono ?_
          rintro e _ ⟨rfl, rfl⟩
          go_wp2_with fail
          go_ret
          exact ⟨by rw [HM.out]; unfold mayP; rw [Z.out, H0.out, H1.out, H2.out]; rfl, K2.out⟩
        | true =>
          have H2 := hid h2
          clear h2
          cases h3 : btw x.a 0 5999 with
          | false =>
            have H3 := hid h3
            clear h3
            go_enter Try.func192, Try.ntmps192
            go_wp2_with (first | (refine wpList_boxPt rfl _ rfl x rfl ?_) | (refine wpList_loadPt rfl _ rfl w.heap.size 0 rfl x HR.out ?_) | fail)
            refine HZ.out.mono ?_
            rintro e w2 ⟨rfl, k2⟩
            have K2 := hid (KB.out.trans k2)
            obtain ⟨c0, c1, c2, c3, c4⟩ := range_at (range_keep HR.out k2 (by simp))
            simp only [Nat.zero_add] at c1 c2 c3 c4
            clear k2
            go_wp2_with fail
            refine (bwithin_as _ x.c 0 4 _ H0.out).mono ?_
            rintro e _ ⟨rfl, rfl⟩
            go_wp2_with fail
            refine (bwithin_as _ x.l 0 1048576 _ H1.out).mono ?_
            rintro e _ ⟨rfl, rfl⟩
            go_wp2_with fail
            refine (bwithin_as _ x.n 0 1073741824 _ H2.out).mono ?_
            rintro e _ ⟨rfl, rfl⟩
            go_wp2_with fail
            refine (bwithin_as _ x.a 0 5999 _ H3.out).mono ?_
            rintro e _ ⟨rfl, rfl⟩
            go_wp2_with fail
            go_ret
            exact ⟨by rw [HM.out]; unfold mayP; rw [Z.out, H0.out, H1.out, H2.out, H3.out]; rfl, K2.out⟩
          | true =>
            obtain ⟨b1, b2⟩ := btw_is.1 h3
            have H3 := hid h3
            clear h3
            cases h4 : btw x.k 1 (min 64 (6000 - x.a)) with
            | false =>
              have H4 := hid h4
              clear h4
              go_enter Try.func192, Try.ntmps192
              go_wp2_with (first | (refine wpList_boxPt rfl _ rfl x rfl ?_) | (refine wpList_loadPt rfl _ rfl w.heap.size 0 rfl x HR.out ?_) | fail)
              refine HZ.out.mono ?_
              rintro e w2 ⟨rfl, k2⟩
              have K2 := hid (KB.out.trans k2)
              obtain ⟨c0, c1, c2, c3, c4⟩ := range_at (range_keep HR.out k2 (by simp))
              simp only [Nat.zero_add] at c1 c2 c3 c4
              clear k2
              go_wp2_with fail
              refine (bwithin_as _ x.c 0 4 _ H0.out).mono ?_
              rintro e _ ⟨rfl, rfl⟩
              go_wp2_with fail
              refine (bwithin_as _ x.l 0 1048576 _ H1.out).mono ?_
              rintro e _ ⟨rfl, rfl⟩
              go_wp2_with fail
              refine (bwithin_as _ x.n 0 1073741824 _ H2.out).mono ?_
              rintro e _ ⟨rfl, rfl⟩
              go_wp2_with fail
              refine (bwithin_as _ x.a 0 5999 _ H3.out).mono ?_
              rintro e _ ⟨rfl, rfl⟩
              go_wp2_with fail
              refine (bwithin_as _ x.k 1 (min 64 (6000 - x.a)) _ H4.out).mono ?_
              rintro e _ ⟨rfl, rfl⟩
              go_wp2_with fail
              go_ret
              exact ⟨by rw [HM.out]; unfold mayP; rw [Z.out, H0.out, H1.out, H2.out, H3.out, H4.out]; rfl, K2.out⟩
            | true =>
              have H4 := hid h4
              clear h4
              go_enter Try.func192, Try.ntmps192
              go_wp2_with (first | (refine wpList_boxPt rfl _ rfl x rfl ?_) | (refine wpList_loadPt rfl _ rfl w.heap.size 0 rfl x HR.out ?_) | fail)
              refine HZ.out.mono ?_
              rintro e w2 ⟨rfl, k2⟩
              have K2 := hid (KB.out.trans k2)
              obtain ⟨c0, c1, c2, c3, c4⟩ := range_at (range_keep HR.out k2 (by simp))
              simp only [Nat.zero_add] at c1 c2 c3 c4
              clear k2
              go_wp2_with fail
              refine (bwithin_as _ x.c 0 4 _ H0.out).mono ?_
              rintro e _ ⟨rfl, rfl⟩
              go_wp2_with fail
              refine (bwithin_as _ x.l 0 1048576 _ H1.out).mono ?_
              rintro e _ ⟨rfl, rfl⟩
              go_wp2_with fail
              refine (bwithin_as _ x.n 0 1073741824 _ H2.out).mono ?_
              rintro e _ ⟨rfl, rfl⟩
              go_wp2_with fail
              refine (bwithin_as _ x.a 0 5999 _ H3.out).mono ?_
              rintro e _ ⟨rfl, rfl⟩
              go_wp2_with fail
              refine (bwithin_as _ x.k 1 (min 64 (6000 - x.a)) _ H4.out).mono ?_
              rintro e _ ⟨rfl, rfl⟩
              go_wp2_with fail
              go_ret
              exact ⟨by rw [HM.out]; unfold mayP; rw [Z.out, H0.out, H1.out, H2.out, H3.out, H4.out]; rfl, K2.out⟩
end Go.Proofs.Ytoglcohdanpciaa


/- blocks: a file's map plainly; in memory; isMade, Size, Count, At. -/
namespace Go.Proofs.Ytoglcohdanpciaa
open Go.RowKit Go.Shelf
set_option maxRecDepth 100000
set_option linter.unusedSimpArgs false

structure Dl where
  d : Int
  i : Int
  b : Int
  s : Int
  t : Pt
  o : Pt
deriving Inhabited
def Dl.cells (x : Dl) : List Value := [.int .i64 x.d, .int .i64 x.i, .int .i64 x.b, .int .i64 x.s] ++ x.t.cells ++ x.o.cells
def dlV (x : Dl) : Value := .agg x.cells.toArray
/-- A file's map. -/
structure Bk where
  sz : Int
  L : List Pt
deriving Inhabited
def cnt (s : Int) : Nat := ((s + 63) / 64).toNat
def atB (L : List Pt) (b : Int) : Pt := if 0 ≤ b then L.getD b.toNat pZ else pZ
def mayD (m : Bk) (x : Dl) : Bool :=
  if x.d = 1 then btw x.b 0 63 && btw x.s (x.b * 64 + 1) 4096 && mayP x.t
  else if x.d = 2 then btw x.s 0 4096
  else if x.d = 3 then !zB x.o && eqP (atB m.L x.b) x.o && mayP x.t && (x.t.k == x.o.k)
  else false
def fitL (L : List Pt) (n : Nat) : List Pt := L.take n ++ List.replicate (n - L.length) pZ
def doD (m : Bk) (x : Dl) : Bk :=
  if x.d = 1 then ⟨max m.sz x.s, (fitL m.L (cnt (max m.sz x.s))).set x.b.toNat x.t⟩
  else if x.d = 2 then ⟨x.s, fitL m.L (cnt x.s)⟩
  else ⟨m.sz, m.L.set x.b.toNat x.t⟩
def stepD (m : Bk) (x : Dl) : Bk := if mayD m x = true then doD m x else m
structure GoodB (m : Bk) : Prop where
  lo : 0 ≤ m.sz
  hi : m.sz ≤ 4096
  len : m.L.length = cnt m.sz
  may : ∀ x ∈ m.L, mayP x = true
theorem cnt_le {s : Int} (h : s ≤ 4096) : cnt s ≤ 64 := by unfold cnt; omega
theorem GoodB.few {m : Bk} (h : GoodB m) : m.L.length ≤ 64 := by rw [h.len]; exact cnt_le h.hi
theorem fitL_len (L : List Pt) (n : Nat) : (fitL L n).length = n := by unfold fitL; simp; omega
theorem mayP_zero : mayP pZ = true := by decide
theorem mem_fitL {L : List Pt} {n : Nat} {x : Pt} (h : x ∈ fitL L n) : x ∈ L ∨ x = pZ := by
  unfold fitL at h
  rcases List.mem_append.1 h with h | h
  · exact Or.inl (List.mem_of_mem_take h)
  · exact Or.inr (List.eq_of_mem_replicate h)
theorem atB_mem {L : List Pt} {b : Int} (h : atB L b ≠ pZ) : 0 ≤ b ∧ b.toNat < L.length := by
  unfold atB at h
  by_cases h0 : 0 ≤ b
  · rw [if_pos h0] at h
    refine ⟨h0, ?_⟩
    rcases Nat.lt_or_ge b.toNat L.length with h1 | h1
    · exact h1
    · rw [List.getD_eq_getElem?_getD, List.getElem?_eq_none h1] at h
      exact absurd rfl h
  · rw [if_neg h0] at h; exact absurd rfl h
theorem eqP_is {a b : Pt} : eqP a b = true ↔ a = b := by simp [eqP]
theorem GoodB.step {m : Bk} (h : GoodB m) (x : Dl) (hm : mayD m x = true) : GoodB (doD m x) := by
  have e1 := h.lo; have e2 := h.hi
  unfold mayD at hm
  unfold doD
  by_cases h1 : x.d = 1
  · rw [if_pos h1] at hm ⊢
    simp only [Bool.and_eq_true, btw_is] at hm
    obtain ⟨⟨⟨a1, a2⟩, a3, a4⟩, a5⟩ := hm
    refine ⟨by simp; omega, by simp; omega, by simp [fitL_len], fun y hy => ?_⟩
    rcases List.mem_or_eq_of_mem_set hy with hy | rfl
    · rcases mem_fitL hy with hy | rfl
      · exact h.may y hy
      · exact mayP_zero
    · exact a5
  · rw [if_neg h1] at hm ⊢
    by_cases h2 : x.d = 2
    · rw [if_pos h2] at hm ⊢
      rw [btw_is] at hm
      refine ⟨hm.1, hm.2, by simp [fitL_len], fun y hy => ?_⟩
      rcases mem_fitL hy with hy | rfl
      · exact h.may y hy
      · exact mayP_zero
    · rw [if_neg h2] at hm ⊢
      by_cases h3 : x.d = 3
      · rw [if_pos h3] at hm
        simp only [Bool.and_eq_true] at hm
        refine ⟨e1, e2, by simp [h.len], fun y hy => ?_⟩
        rcases List.mem_or_eq_of_mem_set hy with hy | rfl
        · exact h.may y hy
        · exact hm.1.2
      · rw [if_neg h3] at hm; cases hm
theorem GoodB.steps {m : Bk} (h : GoodB m) (x : Dl) : GoodB (stepD m x) := by
  unfold stepD
  split
  · rename_i hm; exact h.step x hm
  · exact h
def bk0 : Bk := ⟨0, []⟩
theorem good0 : GoodB bk0 := ⟨by decide, by decide, by decide, by simp [bk0]⟩

section
variable {w : World} {M : List Nat} {q : Nat} {s : Bk}
end

def AtPost (w : World) (x : Pt) (e : Ending) (w' : World) : Prop := e = .returned (ptV x) ∧ Keeps [] w w'
theorem pt_ret {fn : Func} {p : Tmp} (hr : fn.results = #[.cell p 147]) {tmps : Array Value} {w : World} {b : Nat} {x : Pt} (hp : tmps.getD p undef = .pointer (some ⟨b, 0, none⟩)) (hx : w.rangeAt b 0 x.cells) : (results fn tmps).run Try.prog w = .ok (ptV x) w := by
  have hp' : tmps[p]?.getD undef = .pointer (some ⟨b, 0, none⟩) := by simpa using hp
  have hv : (loadVar 147 ⟨b, 0, none⟩).run Try.prog w = .ok (ptV x) w := run_loadVar_mid w b 0 147 x.cells _ hx uPtr rfl (by rw [sPtr]; rfl)
  simp [results, hr, hp', asAddr, hv]
end Go.Proofs.Ytoglcohdanpciaa
