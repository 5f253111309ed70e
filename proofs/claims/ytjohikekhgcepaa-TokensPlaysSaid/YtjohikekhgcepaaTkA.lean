/- tokens: rows (client, handle, what is open, whether it writes), of the code and of the reference, in memory; append of rows. -/
import Derived.Test.YtjohikekhgcepaaKitF
import Derived.Test.YtjohikekhgcepaaKitE
namespace Go.Proofs.Ytjohikekhgcepaa
open Go.RowKit Go.Shelf
set_option maxRecDepth 100000
set_option linter.unusedSimpArgs false

structure Rk where
  c : Int
  h : Int
  n : Int
  b : Bool
deriving DecidableEq, Inhabited
def Rk.cells (x : Rk) : List Value := [.int .i64 x.c, .int .i64 x.h, .int .i64 x.n, .bool x.b]
def rkV (x : Rk) : Value := .agg x.cells.toArray
def rZ : Rk := ⟨0, 0, 0, false⟩
def rkcells (ps : List Rk) : List Value := ps.flatMap Rk.cells
/-- A type of rows, and that of a slice of them. -/
structure RT (T TS : TypeId) : Prop where
  info : (Try.prog.info? T).map (fun i => (i.zero, i.size, i.bytes)) = some (some (rkV rZ), 4, 32)
  two : (Try.prog.info? T).map (fun i => (i.zero, i.size)) = some (some (rkV rZ), 4)
  size : (Try.prog.info? T).map (·.size) = some 4
  und : Try.prog.underlying TS = some (.slice T)
  elem : Try.prog.elem TS = T
  str : Try.prog.underlying T = some (.struct (Try.prog.fieldsOf T))
theorem rkcells_length (ps : List Rk) : (rkcells ps).length = ps.length * 4 := by
  induction ps with
  | nil => rfl
  | cons d ds ih => simp only [rkcells, List.flatMap_cons, List.length_append, Rk.cells, List.length_cons, List.length_nil] at *; omega
theorem rkcells_append (a b : List Rk) : rkcells (a ++ b) = rkcells a ++ rkcells b := by simp [rkcells]
theorem rkcells_cons (m : Rk) (b : List Rk) : rkcells (m :: b) = m.cells ++ rkcells b := by simp [rkcells]
theorem rkcells_in : ∀ (ds : List Rk) (i : Nat) (h : i < ds.length) (j : Nat), j < 4 → (rkcells ds)[i * 4 + j]? = ds[i].cells[j]?
  | d :: ds, 0, _, j, hj => by
    rw [rkcells_cons, Nat.zero_mul, Nat.zero_add, List.getElem?_append_left (by simpa [Rk.cells] using hj)]
    rfl
  | d :: ds, i + 1, h, j, hj => by
    have ih := rkcells_in ds i (by simpa using h) j hj
    rw [rkcells_cons, List.getElem?_append_right (by simp [Rk.cells]; omega)]
    simp only [List.getElem_cons_succ]
    rw [← ih]
    congr 1
    simp [Rk.cells]
    omega
theorem rkcells_take (ms : List Rk) (n : Nat) : rkcells (ms.take n) = (rkcells ms).take (n * 4) := by
  induction ms generalizing n with
  | nil => simp [rkcells]
  | cons m ms ih =>
    cases n with
    | zero => simp [rkcells]
    | succ n =>
      rw [List.take_succ_cons, rkcells_cons, rkcells_cons, ih, show (n + 1) * 4 = n * 4 + 4 by omega]
      rfl
theorem rkcells_drop (ms : List Rk) (n : Nat) : rkcells (ms.drop n) = (rkcells ms).drop (n * 4) := by
  induction ms generalizing n with
  | nil => simp [rkcells]
  | cons m ms ih =>
    cases n with
    | zero => simp [rkcells]
    | succ n =>
      rw [List.drop_succ_cons, rkcells_cons, ih, show (n + 1) * 4 = n * 4 + 4 by omega]
      rfl
theorem rkcells_all (ds : List Rk) : ∀ u ∈ rkcells ds, u.oneCell' = true := by
  intro u hu
  simp only [rkcells, List.mem_flatMap] at hu
  obtain ⟨d, hd, hm⟩ := hu
  simp [Rk.cells] at hm
  rcases hm with rfl | rfl | rfl | rfl <;> rfl
theorem rk_one (x : Rk) : x.cells.toArray.all (·.oneCell') = true := by simp [Rk.cells, Value.oneCell']

theorem RT.sizeOf {T TS : TypeId} (R : RT T TS) (W : World) : (Go.sizeOf T).run Try.prog W = .ok 4 W := by
  obtain ⟨i0, hi, hz0, hz1, hz2⟩ := info_parts R.info
  simp [Go.sizeOf, typeInfo, hi, hz1, Result.andThen]
/-- A slice of rows, to be read; it lies in none of the blocks of M. -/
def RksAt (w : World) (M : List Nat) (v : Value) (ps : List Rk) : Prop :=
  ∃ (a : Option Addr) (cap : Nat), v = .slice a ps.length cap ∧ ps.length ≤ cap ∧ cap ≤ maxLen ∧ (a = none → cap = 0) ∧
    (∀ ad, a = some ad → ∃ g off, ad = ⟨g, off, none⟩ ∧ g < w.heap.size ∧ g ∉ M ∧ w.rangeAt g off (rkcells ps))
theorem RksAt.nil (w : World) (M : List Nat) : RksAt w M (.slice none 0 0) [] := ⟨none, 0, rfl, by simp, by simp, fun _ => rfl, fun _ h => by cases h⟩
theorem RksAt.keep {w w' : World} {M S : List Nat} {v : Value} {ps : List Rk} (h : RksAt w M v ps) (k : Keeps S w w') (hs : ∀ b ∈ S, b ∈ M) : RksAt w' M v ps := by
  obtain ⟨a, cap, rfl, h1, h2, h0, h4⟩ := h
  refine ⟨a, cap, rfl, h1, h2, h0, fun ad had => ?_⟩
  obtain ⟨g, off, rfl, hg, hM, hc⟩ := h4 ad had
  exact ⟨g, off, rfl, Nat.lt_of_lt_of_le hg k.size, hM, fun j u hu => k.cell' (hc j u hu) (fun hm => hM (hs _ hm))⟩
theorem RksAt.later {w w' : World} {M : List Nat} {v : Value} {ps : List Rk} (h : RksAt w M v ps) (k : Keeps [] w w') : RksAt w' M v ps := h.keep k (by simp)
theorem RksAt.more {w : World} {M N : List Nat} {v : Value} {ps : List Rk} (h : RksAt w M v ps) (hN : ∀ b ∈ N, b ∈ M ∨ w.heap.size ≤ b) : RksAt w N v ps := by
  obtain ⟨a, cap, rfl, h1, h2, h0, h4⟩ := h
  refine ⟨a, cap, rfl, h1, h2, h0, fun ad had => ?_⟩
  obtain ⟨g, off, rfl, hg, hM, hc⟩ := h4 ad had
  exact ⟨g, off, rfl, hg, fun hm => by
    rcases hN g hm with h | h
    · exact hM h
    · omega, hc⟩
theorem RksAt.shape {w : World} {M : List Nat} {v : Value} {ps : List Rk} (h : RksAt w M v ps) : ∃ a c, v = .slice a ps.length c := by
  obtain ⟨a, cap, rfl, _⟩ := h
  exact ⟨a, cap, rfl⟩
theorem RksAt.two {w : World} {M : List Nat} {v : Value} {ps : List Rk} (h : RksAt w M v ps) : (v = .slice none 0 0 ∧ ps = []) ∨ ∃ g off cap, v = .slice (some ⟨g, off, none⟩) ps.length cap ∧ ps.length ≤ cap ∧ cap ≤ maxLen ∧ g < w.heap.size ∧ g ∉ M ∧ w.rangeAt g off (rkcells ps) := by
  obtain ⟨a, cap, rfl, h1, h2, h0, h4⟩ := h
  cases a with
  | none =>
    obtain rfl := h0 rfl
    have : ps = [] := List.eq_nil_of_length_eq_zero (by omega)
    subst this
    exact Or.inl ⟨rfl, rfl⟩
  | some ad =>
    obtain ⟨g, off, rfl, hg, hM, hc⟩ := h4 ad rfl
    exact Or.inr ⟨g, off, cap, rfl, h1, h2, hg, hM, hc⟩
theorem RksAt.open {w : World} {M : List Nat} {a : Option Addr} {n cap : Nat} {ps : List Rk} (h : RksAt w M (.slice a n cap) ps) (hne : 0 < ps.length) :
    ∃ g off, a = some ⟨g, off, none⟩ ∧ n = ps.length ∧ ps.length ≤ cap ∧ g < w.heap.size ∧ g ∉ M ∧ w.rangeAt g off (rkcells ps) := by
  rcases h.two with ⟨_, rfl⟩ | ⟨g, off, cap', hv, h1, h2, hg, hM, hc⟩
  · simp at hne
  · injection hv with e1 e2 e3
    subst e1; subst e2; subst e3
    exact ⟨g, off, rfl, rfl, h1, hg, hM, hc⟩
theorem range_rk {w : World} {g off : Nat} {ps : List Rk} (h : w.rangeAt g off (rkcells ps)) (i : Nat) (hi : i < ps.length) : w.rangeAt g (off + i * 4) ps[i].cells := fun j u hu => by
  have hj : j < 4 := by
    have := (List.getElem?_eq_some_iff.1 hu).1
    simpa [Rk.cells] using this
  have := h (i * 4 + j) u (by rw [rkcells_in ps i hi j hj]; exact hu)
  rwa [← Nat.add_assoc] at this
theorem RksAt.cells {w : World} {M : List Nat} {a : Option Addr} {n c : Nat} {ps : List Rk} (h : RksAt w M (.slice a n c) ps) : ∀ ad, a = some ad → ∀ j u, (rkcells ps)[j]? = some u → w.cell? (ad.add j) = some u := by
  rintro ad had j u hu
  have hne : 0 < ps.length := by
    cases ps with
    | nil => simp [rkcells] at hu
    | cons _ _ => simp
  obtain ⟨g, off, e, _, _, _, _, hc⟩ := h.open hne
  rw [had] at e
  obtain rfl := Option.some.inj e
  rw [Addr.add_lit]
  exact hc j u hu

/-- Rows of the call's own. -/
structure OwnK (w : World) (B : Nat) (T : TypeId) (M : List Nat) (v : Value) (ps : List Rk) : Prop where
  row : w.ownsRow B T 4 v ps.length (rkcells ps)
  lt : ∀ b ∈ M, b < B
theorem OwnK.nil (w : World) (B : Nat) (T : TypeId) (M : List Nat) (hM : ∀ b ∈ M, b < B) : OwnK w B T M (.slice none 0 0) [] := ⟨World.ownsRow_nil _ _ _ _, hM⟩
theorem ownsRow_keepK {w w' : World} {B : Nat} {e : TypeId} {s n : Nat} {v : Value} {xs : List Value} {S : List Nat} (h : w.ownsRow B e s v n xs) (k : Keeps S w w') (hs : ∀ b, v.ownBlock = some b → b ∉ S) : w'.ownsRow B e s v n xs := by
  rcases h.2 with ⟨rfl, h0⟩ | ⟨g, cap, cur, rfl, hb, hg, hnc, hcm, hcs, ht⟩
  · exact ⟨h.1, .inl ⟨rfl, h0⟩⟩
  · exact ⟨h.1, .inr ⟨g, cap, cur, rfl, hb, (k.block g (lt_of_block hg) (hs g rfl)).trans hg, hnc, hcm, hcs, ht⟩⟩
theorem OwnK.blk {w B T M v ps} (h : OwnK w B T M v ps) : ∀ k, v.ownBlock = some k → B ≤ k ∧ k < w.heap.size := h.row.lt
theorem OwnK.keep {w w' : World} {B : Nat} {T : TypeId} {M S : List Nat} {v : Value} {ps : List Rk} (h : OwnK w B T M v ps) (k : Keeps S w w') (hs : ∀ b ∈ S, b ∈ M) : OwnK w' B T M v ps :=
  ⟨ownsRow_keepK h.row k (fun b hb hm => by have := (h.blk b hb).1; have := h.lt b (hs b hm); omega), h.lt⟩
theorem OwnK.later {w w' : World} {B : Nat} {T : TypeId} {M : List Nat} {v : Value} {ps : List Rk} (h : OwnK w B T M v ps) (k : Keeps [] w w') : OwnK w' B T M v ps := h.keep k (by simp)
theorem OwnK.shape {w B T M v ps} (h : OwnK w B T M v ps) : ∃ a c, v = .slice a ps.length c := by
  rcases h.row.2 with ⟨rfl, e⟩ | ⟨g, cap, cur, rfl, _⟩
  · exact ⟨none, 0, by rw [e]⟩
  · exact ⟨_, cap, rfl⟩
theorem OwnK.at {w B T M v ps} (h : OwnK w B T M v ps) : RksAt w M v ps := by
  rcases h.row.2 with ⟨rfl, h0⟩ | ⟨g, cap, cur, rfl, hb, hg, hnc, hcm, hcs, ht⟩
  · rw [List.eq_nil_of_length_eq_zero h0]
    exact RksAt.nil w M
  · refine ⟨_, cap, rfl, hnc, hcm, by simp, fun ad had => ⟨g, 0, (Option.some.inj had).symm, lt_of_block hg, fun hm => by have := h.lt g hm; omega, fun j u hu => ?_⟩⟩
    have := h.row.cells (g := g) rfl j u hu
    rw [Addr.add_lit] at this
    exact this

/-- append of rows onto rows of the call's own. -/
theorem append_rks {T TS : TypeId} (R : RT T TS) {w : World} {B : Nat} {M N : List Nat} {v : Value} {ps es : List Rk} (h : OwnK w B T M v ps) (A : Option Addr) (n c : Nat) (hs : RksAt w N (.slice A n c) es) (hl : ps.length + es.length ≤ 100000) (hB : B ≤ w.heap.size) (ty : TypeId) :
    ∃ a' c' w', (Builtin.append_ #[TS, TS] ty #[v, .slice A n c]).run Try.prog w = .ok (.slice a' (ps.length + n) c') w' ∧ OwnK w' B T M (.slice a' (ps.length + n) c') (ps ++ es) ∧ Keeps v.ownBlock.toList w w' ∧ NewRow w v (.slice a' (ps.length + n) c') := by
  obtain ⟨i, hi, hz, hz3, hz40⟩ := info_parts R.info
  obtain ⟨a0, c0, hv0, h1, h2, h0, h4⟩ := id hs
  injection hv0 with e1 e2 e3
  subst e1; subst e2; subst e3
  obtain ⟨a', c', w', hr, ho, hg, hn⟩ := run_append_rowsO (P := Try.prog) w B TS ty T i _ 4 32 R.und hi hz hz3 hz40 rfl (by omega) v ps.length (rkcells ps) h.row A es.length c (rkcells es) (rkcells_length es) h0 h1
    (fun ad had j u hu => hs.cells ad had j u hu) (rkcells_all es) (by unfold maxLen; omega) (by omega) hB
  exact ⟨a', c', w', hr, ⟨by rw [List.length_append, rkcells_append]; exact ho, h.lt⟩, (Keeps.refl _ _).grown hg (fun k hk => Or.inl (by simp [hk])), hn⟩
/-- append of one row. -/
theorem append_rk {T TS : TypeId} (R : RT T TS) {w : World} {B : Nat} {M : List Nat} {v : Value} {ps : List Rk} (h : OwnK w B T M v ps) (b : Nat) (x : Rk) (hx : w.rangeAt b 0 x.cells) (hl : ps.length < 100000) (hB : B ≤ w.heap.size) (ty : TypeId) :
    ∃ a' c' w', (Builtin.append_ #[TS, TS] ty #[v, .slice (some ⟨b, 0, none⟩) 1 1]).run Try.prog w = .ok (.slice a' (ps.length + 1) c') w' ∧ OwnK w' B T M (.slice a' (ps.length + 1) c') (ps ++ [x]) ∧ Keeps v.ownBlock.toList w w' ∧ NewRow w v (.slice a' (ps.length + 1) c') := by
  refine append_rks R (N := []) (es := [x]) h (some ⟨b, 0, none⟩) 1 1 ?_ (by simp only [List.length_cons, List.length_nil]; omega) hB ty
  have hc := hx 0 _ rfl
  exact ⟨_, 1, rfl, by simp, by unfold maxLen; omega, by simp, fun ad had => ⟨b, 0, (Option.some.inj had).symm, World.block_lt_of_cell? _ _ hc, by simp, by simpa [rkcells] using hx⟩⟩
theorem loadRk_run {T TS : TypeId} (R : RT T TS) (W : World) (b off : Nat) (x : Rk) (hc : W.rangeAt b off x.cells) : (Instr.loadAt T (.pointer (some ⟨b, off, none⟩))).run Try.prog W = .ok (rkV x) W :=
  run_loadAt_mid W b off T x.cells _ hc R.str rfl (by rw [R.size]; rfl)
section
variable {ops : Array Oper} {rest : List Oper} {o : Oper} {a : Act} {w : World} {Q : Exit → Act → World → Prop} {T TS : TypeId}
theorem wpList_loadRk (R : RT T TS) (hgd : o.guard = none) (x : Operand) (ho : o.op = .load T x) (b off : Nat) (hx : a.eval x = .pointer (some ⟨b, off, none⟩)) (t : Rk) (hc : w.rangeAt b off t.cells)
    (hk : wpList Try.prog ops Q rest (a.put o.dst (rkV t)) w) : wpList Try.prog ops Q (o :: rest) a w :=
  wpList_is hgd _ _ (exec_load _ _ _ _ ho hx (loadRk_run R _ b off t hc)) hk
theorem wpList_boxRk (hgd : o.guard = none) (x : Operand) (ho : o.op = .box T x) (t : Rk) (hx : a.eval x = rkV t)
    (hk : wpList Try.prog ops Q rest (a.put o.dst (.pointer (some ⟨w.heap.size, 0, none⟩))) (w.alloc (.cells t.cells.toArray T))) : wpList Try.prog ops Q (o :: rest) a w :=
  wpList_is hgd _ _ (exec_box T x _ hx ho) hk
theorem wpList_allocRk (R : RT T TS) (hgd : o.guard = none) (ho : o.op = .alloc T)
    (hk : wpList Try.prog ops Q rest (a.put o.dst (.pointer (some ⟨w.heap.size, 0, none⟩))) (w.alloc (.cells rZ.cells.toArray T))) : wpList Try.prog ops Q (o :: rest) a w :=
  wpList_is hgd _ _ (exec_alloc T rZ.cells.toArray R.two ho) hk
theorem wpList_newRk (R : RT T TS) (hgd : o.guard = none) (W : World) (x y : Operand) (ho : o.op = .store T x y) (hw : w = W.alloc (.cells rZ.cells.toArray T)) (hx : a.eval x = .pointer (some ⟨W.heap.size, 0, none⟩)) (t : Rk) (hy : a.eval y = rkV t)
    (hk : wpList Try.prog ops Q rest (a.put o.dst undef) (W.alloc (.cells t.cells.toArray T))) : wpList Try.prog ops Q (o :: rest) a w :=
  wpList_noval hgd _ (exec_storeNew T x y ho W rZ.cells.toArray t.cells.toArray hw hx hy R.two rfl (rk_one t)) hk
end
theorem rkrange_new (w : World) (cs : List Value) (T : TypeId) : (w.alloc (.cells cs.toArray T)).rangeAt w.heap.size 0 cs := fun j v hv => by
  rw [Nat.zero_add, cell_of_row _ _ j _ _ (0, 0) (heap_alloc_new w _)]
  simpa using hv
theorem rkrange_keep {w w' : World} {S : List Nat} {b off : Nat} {cs : List Value} (h : w.rangeAt b off cs) (k : Keeps S w w') (hs : b ∉ S) : w'.rangeAt b off cs := fun j v hv => k.cell' (h j v hv) hs
theorem rkrange_at {w : World} {b off : Nat} {x : Rk} (h : w.rangeAt b off x.cells) : w.cell? ⟨b, off, none⟩ = some (.int .i64 x.c) ∧ w.cell? ⟨b, off + 1, none⟩ = some (.int .i64 x.h) ∧ w.cell? ⟨b, off + 2, none⟩ = some (.int .i64 x.n) ∧ w.cell? ⟨b, off + 3, none⟩ = some (.bool x.b) :=
  ⟨h 0 _ rfl, h 1 _ rfl, h 2 _ rfl, h 3 _ rfl⟩
theorem cRk : RT 59 67 := ⟨by kernel_rfl, by kernel_rfl, by kernel_rfl, by kernel_rfl, by kernel_rfl, by kernel_rfl⟩
theorem rRk : RT 62 42 := ⟨by kernel_rfl, by kernel_rfl, by kernel_rfl, by kernel_rfl, by kernel_rfl, by kernel_rfl⟩
end Go.Proofs.Ytjohikekhgcepaa
