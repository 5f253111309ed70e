/- Kinds of things in memory: one by value, slices of them, slices of the call's own, append. (For every layer.) -/
import Derived.Test.YtoglcohdanpciaaJK
namespace Go.Proofs.Ytoglcohdanpciaa
open Go.RowKit Go.Shelf
set_option maxRecDepth 100000
set_option linter.unusedSimpArgs false
set_option linter.unusedVariables false

/-- A kind: a thing's cells, how many, the zero. -/
structure Kn (α : Type) where
  cells : α → List Value
  n : Nat
  z : α
def Kn.v {α : Type} (K : Kn α) (x : α) : Value := .agg (K.cells x).toArray
def Kn.all {α : Type} (K : Kn α) (l : List α) : List Value := l.flatMap K.cells
/-- T is the kind's type, TS that of its slices. -/
structure Kn.Ty {α : Type} (K : Kn α) (T TS : TypeId) (B : Nat) : Prop where
  len : ∀ x, (K.cells x).length = K.n
  one : ∀ x, ∀ u ∈ K.cells x, u.oneCell' = true
  pos : 0 < K.n
  wide : B ≤ 1000
  info : (Try.prog.info? T).map (fun i => (i.zero, i.size, i.bytes)) = some (some (K.v K.z), K.n, B)
  two : (Try.prog.info? T).map (fun i => (i.zero, i.size)) = some (some (K.v K.z), K.n)
  size : (Try.prog.info? T).map (·.size) = some K.n
  und : Try.prog.underlying TS = some (.slice T)
  str : ∃ d, Try.prog.underlying T = some d ∧ d.isRow = true
  bld : ∀ (w : World) (x : α), (Instr.buildSlice TS 1 #[(0, K.v x)]).run Try.prog w = .ok (.slice (some ⟨w.heap.size, 0, none⟩) 1 1) (w.alloc (.cells (K.cells x).toArray T))
section
variable {α : Type} {K : Kn α} {T TS : TypeId} {BB : Nat}
theorem Kn.all_length (R : K.Ty T TS BB) (l : List α) : (K.all l).length = l.length * K.n := by
  induction l with
  | nil => simp [Kn.all]
  | cons d ds ih =>
    unfold Kn.all at *
    rw [List.flatMap_cons, List.length_append, ih, R.len, List.length_cons, Nat.add_mul, Nat.one_mul, Nat.add_comm]
theorem Kn.all_append (K : Kn α) (a b : List α) : K.all (a ++ b) = K.all a ++ K.all b := by simp [Kn.all]
theorem Kn.all_cons (K : Kn α) (a : α) (b : List α) : K.all (a :: b) = K.cells a ++ K.all b := by simp [Kn.all]
theorem Kn.all_in (R : K.Ty T TS BB) : ∀ (l : List α) (i : Nat) (h : i < l.length) (j : Nat), j < K.n → (K.all l)[i * K.n + j]? = (K.cells l[i])[j]?
  | d :: ds, 0, _, j, hj => by
    rw [Kn.all_cons, Nat.zero_mul, Nat.zero_add, List.getElem?_append_left (by rw [R.len]; exact hj)]
    rfl
  | d :: ds, i + 1, h, j, hj => by
    have ih := Kn.all_in R ds i (by simpa using h) j hj
    rw [Kn.all_cons, List.getElem?_append_right (by rw [R.len, Nat.add_mul]; omega), R.len]
    simp only [List.getElem_cons_succ]
    rw [← ih]
    congr 1
    rw [Nat.add_mul]
    omega
theorem Kn.all_one (R : K.Ty T TS BB) (l : List α) : ∀ u ∈ K.all l, u.oneCell' = true := by
  intro u hu
  simp only [Kn.all, List.mem_flatMap] at hu
  obtain ⟨d, hd, hm⟩ := hu
  exact R.one d u hm
/-- A slice of them, to be read. -/
def LsAt (K : Kn α) (w : World) (v : Value) (l : List α) : Prop :=
  ∃ (a : Option Addr) (cap : Nat), v = .slice a l.length cap ∧ l.length ≤ cap ∧ cap ≤ maxLen ∧ (a = none → cap = 0) ∧
    (l ≠ [] → ∃ g off, a = some ⟨g, off, none⟩ ∧ g < w.heap.size ∧ ∀ i (h : i < l.length), w.rangeAt g (off + i * K.n) (K.cells l[i]))
theorem LsAt.nil (K : Kn α) (w : World) : LsAt K w (.slice none 0 0) [] := ⟨none, 0, rfl, by simp, by simp, fun _ => rfl, fun h => absurd rfl h⟩
theorem LsAt.keep {w w' : World} {v : Value} {l : List α} (h : LsAt K w v l) (k : Keeps [] w w') : LsAt K w' v l := by
  obtain ⟨a, cap, e, h1, h2, h0, h3⟩ := h
  refine ⟨a, cap, e, h1, h2, h0, fun hne => ?_⟩
  obtain ⟨g, off, e2, hg, hc⟩ := h3 hne
  exact ⟨g, off, e2, Nat.lt_of_lt_of_le hg k.size, fun i hi j u hu => k.cell' (hc i hi j u hu) (by simp)⟩
theorem LsAt.shape {w : World} {v : Value} {l : List α} (h : LsAt K w v l) : ∃ a c, v = .slice a l.length c := by
  obtain ⟨a, c, e, _⟩ := h
  exact ⟨a, c, e⟩
theorem LsAt.at {w : World} {a : Option Addr} {n cap : Nat} {l : List α} (h : LsAt K w (.slice a n cap) l) (i : Nat) (hi : i < l.length) : ∃ g off, a = some ⟨g, off, none⟩ ∧ g < w.heap.size ∧ w.rangeAt g (off + i * K.n) (K.cells l[i]) := by
  obtain ⟨a', c', e, _, _, _, h3⟩ := h
  injection e with e1 e2 e3
  subst e1
  obtain ⟨g, off, e2, hg, hc⟩ := h3 (by intro e; rw [e] at hi; simp at hi)
  exact ⟨g, off, e2, hg, hc i hi⟩
theorem LsAt.few {w : World} {v : Value} {l : List α} (h : LsAt K w v l) : l.length ≤ maxLen := by
  obtain ⟨a, cap, _, h1, h2, _⟩ := h
  omega
/-- .. of the call's own. -/
structure OwnT (K : Kn α) (T : TypeId) (w : World) (B : Nat) (v : Value) (l : List α) : Prop where
  row : w.ownsRow B T K.n v l.length (K.all l)
theorem OwnT.nil (K : Kn α) (T : TypeId) (w : World) (B : Nat) : OwnT K T w B (.slice none 0 0) [] := ⟨World.ownsRow_nil _ _ _ _⟩
theorem OwnT.blk {w B v l} (h : OwnT K T w B v l) : ∀ k, v.ownBlock = some k → B ≤ k ∧ k < w.heap.size := h.row.lt
theorem ownsRow_keepT {w w' : World} {B : Nat} {e : TypeId} {s n : Nat} {v : Value} {xs : List Value} {S : List Nat} (h : w.ownsRow B e s v n xs) (k : Keeps S w w') (hs : ∀ b, v.ownBlock = some b → b ∉ S) : w'.ownsRow B e s v n xs := by
  rcases h.2 with ⟨rfl, h0⟩ | ⟨g, cap, cur, rfl, hb, hg, hnc, hcm, hcs, ht⟩
  · exact ⟨h.1, .inl ⟨rfl, h0⟩⟩
  · exact ⟨h.1, .inr ⟨g, cap, cur, rfl, hb, (k.block g (lt_of_block hg) (hs g rfl)).trans hg, hnc, hcm, hcs, ht⟩⟩
theorem OwnT.keep {w w' : World} {B : Nat} {v : Value} {l : List α} {S : List Nat} (h : OwnT K T w B v l) (k : Keeps S w w') (hs : ∀ b ∈ S, b < B) : OwnT K T w' B v l :=
  ⟨ownsRow_keepT h.row k (fun b hb hm => by have := (h.blk b hb).1; have := hs b hm; omega)⟩
theorem OwnT.off {w w' : World} {B : Nat} {v : Value} {l : List α} {S : List Nat} (h : OwnT K T w B v l) (k : Keeps S w w') (hs : ∀ b, v.ownBlock = some b → b ∉ S) : OwnT K T w' B v l := ⟨ownsRow_keepT h.row k hs⟩
theorem OwnT.later {w w' : World} {B : Nat} {v : Value} {l : List α} (h : OwnT K T w B v l) (k : Keeps [] w w') : OwnT K T w' B v l := ⟨ownsRow_keepT h.row k (fun b _ hm => by simp at hm)⟩
theorem OwnT.shape {w B v l} (h : OwnT K T w B v l) : ∃ a c, v = .slice a l.length c := by
  rcases h.row.2 with ⟨rfl, e⟩ | ⟨g, cap, cur, rfl, _⟩
  · exact ⟨none, 0, by rw [e]⟩
  · exact ⟨_, cap, rfl⟩
theorem OwnT.at {w B v l} (R : K.Ty T TS BB) (h : OwnT K T w B v l) : LsAt K w v l := by
  rcases h.row.2 with ⟨rfl, h0⟩ | ⟨g, cap, cur, rfl, hb, hg, hnc, hcm, hcs, ht⟩
  · rw [List.eq_nil_of_length_eq_zero h0]
    exact LsAt.nil K w
  · refine ⟨_, cap, rfl, hnc, hcm, by simp, fun _ => ⟨g, 0, rfl, lt_of_block hg, fun i hi j u hu => ?_⟩⟩
    have hj : j < K.n := by
      have := (List.getElem?_eq_some_iff.1 hu).1
      rwa [R.len] at this
    have := h.row.cells (g := g) rfl (i * K.n + j) u (by rw [Kn.all_in R l i hi j hj]; exact hu)
    rw [Addr.add_lit] at this
    rwa [← Nat.add_assoc] at this
theorem LsAt.cells {w : World} {a : Option Addr} {n c : Nat} {l : List α} (R : K.Ty T TS BB) (h : LsAt K w (.slice a n c) l) : ∀ ad, a = some ad → ∀ j u, (K.all l)[j]? = some u → w.cell? (ad.add j) = some u := by
  rintro ad had j u hu
  have hj := (List.getElem?_eq_some_iff.1 hu).1
  rw [Kn.all_length R] at hj
  have hp := R.pos
  have hd : j / K.n < l.length := by rw [Nat.div_lt_iff_lt_mul hp]; exact hj
  obtain ⟨g2, off2, e2, _, hc⟩ := h.at (j / K.n) hd
  rw [had] at e2
  obtain rfl := Option.some.inj e2
  rw [Addr.add_lit]
  have hjj : j / K.n * K.n + j % K.n = j := by rw [Nat.mul_comm]; exact Nat.div_add_mod j K.n
  have := hc (j % K.n) u (by rw [← Kn.all_in R l (j / K.n) hd (j % K.n) (Nat.mod_lt _ hp), hjj]; exact hu)
  rwa [Nat.add_assoc, hjj] at this
/-- append of some onto some of the call's own. -/
theorem append_ls (R : K.Ty T TS BB) {w : World} {B : Nat} {v : Value} {ps es : List α} (h : OwnT K T w B v ps) (A : Option Addr) (n c : Nat) (hs : LsAt K w (.slice A n c) es) (hl : ps.length + es.length ≤ 100000) (hB : B ≤ w.heap.size) (ty : TypeId) :
    ∃ a' c' w', (Builtin.append_ #[TS, TS] ty #[v, .slice A n c]).run Try.prog w = .ok (.slice a' (ps.length + n) c') w' ∧ OwnT K T w' B (.slice a' (ps.length + n) c') (ps ++ es) ∧ Keeps v.ownBlock.toList w w' ∧ NewRow w v (.slice a' (ps.length + n) c') := by
  obtain ⟨i, hi, hz, hz3, hz40⟩ := info_parts R.info
  obtain ⟨a0, c0, hv0, h1, h2, h0, h4⟩ := id hs
  injection hv0 with e1 e2 e3
  subst e1; subst e2; subst e3
  have hw := R.wide
  have hmul : (ps.length + es.length) * BB ≤ 100000 * 1000 := Nat.mul_le_mul hl hw
  obtain ⟨a', c', w', hr, ho, hg, hn⟩ := run_append_rowsO (P := Try.prog) w B TS ty T i _ K.n BB R.und hi hz hz3 hz40 (by show (K.cells K.z).toArray.size = K.n; simpa using R.len K.z) R.pos v ps.length (K.all ps) h.row A es.length c (K.all es) (Kn.all_length R es) h0 h1
    (fun ad had j u hu => hs.cells R ad had j u hu) (Kn.all_one R es) (by unfold maxLen; omega) (by omega) hB
  exact ⟨a', c', w', hr, ⟨by rw [List.length_append, Kn.all_append]; exact ho⟩, (Keeps.refl _ _).grown hg (fun k hk => Or.inl (by simp [hk])), hn⟩
theorem one_ls (w : World) (x : α) (T : TypeId) : LsAt K (w.alloc (.cells (K.cells x).toArray T)) (.slice (some ⟨w.heap.size, 0, none⟩) 1 1) [x] :=
  ⟨_, 1, rfl, by simp, by decide, by simp, fun _ => ⟨w.heap.size, 0, rfl, by simp, fun i hi j v hv => by
    simp at hi
    subst hi
    rw [Nat.zero_mul, Nat.add_zero, Nat.zero_add, cell_of_row _ _ j _ _ (0, 0) (heap_alloc_new w _)]
    simpa using hv⟩⟩
theorem load_run (R : K.Ty T TS BB) (W : World) (b off : Nat) (x : α) (hc : W.rangeAt b off (K.cells x)) : (Instr.loadAt T (.pointer (some ⟨b, off, none⟩))).run Try.prog W = .ok (K.v x) W := by
  obtain ⟨d, hd, hr⟩ := R.str
  exact run_loadAt_mid W b off T (K.cells x) d hc hd hr (by rw [R.size, R.len])
theorem krange_new (w : World) (cs : List Value) (T : TypeId) : (w.alloc (.cells cs.toArray T)).rangeAt w.heap.size 0 cs := fun j v hv => by
  rw [Nat.zero_add, cell_of_row _ _ j _ _ (0, 0) (heap_alloc_new w _)]
  simpa using hv
theorem krange_keep {w w' : World} {S : List Nat} {b off : Nat} {cs : List Value} (h : w.rangeAt b off cs) (k : Keeps S w w') (hs : b ∉ S) : w'.rangeAt b off cs := fun j v hv => k.cell' (h j v hv) hs
theorem Kn.all_cell (R : K.Ty T TS BB) (x : α) : (K.cells x).toArray.all (·.oneCell') = true := by
  rw [Array.all_eq_true_iff_forall_mem]
  intro u hu
  exact R.one x u (by simpa using hu)
section
variable {ops : Array Oper} {rest : List Oper} {o : Oper} {a : Act} {w : World} {Q : Exit → Act → World → Prop}
theorem exec_oneT (R : K.Ty T TS BB) {ρ : Operand → Value} {o : Oper} {w : World} (x : Operand) (t : α) (ho : o.op = .buildSlice TS 1 #[(0, x)]) (hx : ρ x = K.v t) :
    (execOp ρ o).run Try.prog w = .ok (.value (.slice (some ⟨w.heap.size, 0, none⟩) 1 1)) (w.alloc (.cells (K.cells t).toArray T)) := by
  simp only [execOp, ho, List.map_toArray, List.map_cons, List.map_nil, hx, Sem.run_bind, R.bld, Result.andThen_ok, Sem.run_pure]
theorem wpList_loadT (R : K.Ty T TS BB) (hgd : o.guard = none) (x : Operand) (ho : o.op = .load T x) (b off : Nat) (hx : a.eval x = .pointer (some ⟨b, off, none⟩)) (t : α) (hc : w.rangeAt b off (K.cells t))
    (hk : wpList Try.prog ops Q rest (a.put o.dst (K.v t)) w) : wpList Try.prog ops Q (o :: rest) a w :=
  wpList_is hgd _ _ (exec_load _ _ _ _ ho hx (load_run R _ b off t hc)) hk
theorem wpList_boxT (K : Kn α) (hgd : o.guard = none) (x : Operand) (ho : o.op = .box T x) (t : α) (hx : a.eval x = K.v t)
    (hk : wpList Try.prog ops Q rest (a.put o.dst (.pointer (some ⟨w.heap.size, 0, none⟩))) (w.alloc (.cells (K.cells t).toArray T))) : wpList Try.prog ops Q (o :: rest) a w :=
  wpList_is hgd _ _ (exec_box T x _ hx ho) hk
theorem wpList_allocT (R : K.Ty T TS BB) (hgd : o.guard = none) (ho : o.op = .alloc T)
    (hk : wpList Try.prog ops Q rest (a.put o.dst (.pointer (some ⟨w.heap.size, 0, none⟩))) (w.alloc (.cells (K.cells K.z).toArray T))) : wpList Try.prog ops Q (o :: rest) a w :=
  wpList_is hgd _ _ (exec_alloc T (K.cells K.z).toArray R.two ho) hk
theorem wpList_newT (R : K.Ty T TS BB) (hgd : o.guard = none) (W : World) (x y : Operand) (ho : o.op = .store T x y) (hw : w = W.alloc (.cells (K.cells K.z).toArray T)) (hx : a.eval x = .pointer (some ⟨W.heap.size, 0, none⟩)) (t : α) (hy : a.eval y = K.v t)
    (hk : wpList Try.prog ops Q rest (a.put o.dst undef) (W.alloc (.cells (K.cells t).toArray T))) : wpList Try.prog ops Q (o :: rest) a w :=
  wpList_noval hgd _ (exec_storeNew T x y ho W (K.cells K.z).toArray (K.cells t).toArray hw hx hy (by simpa [R.len] using R.two) (by simp [R.len]) (Kn.all_cell R t)) hk
end
end
end Go.Proofs.Ytoglcohdanpciaa
