/- KitF, BkA, BkB, LyX0. -/
import Derived.Test.YtcfmonlgpccndaaDoorPkG04
import Derived.Test.YtcfmonlgpccndaaDoorPkG01
import Derived.Laws.AppendOwnNone
import Derived.Test.YtcfmonlgpccndaaDoorPkG06
import Derived.Laws.StructEq
import Derived.Deep.MidRow
import Derived.Shelf.SlicesQ.Contains
import Derived.Test.YtcfmonlgpccndaaDoorPkG18
/- append of structs onto a row of the call's own: where the new row lies. (For every layer.) -/
namespace Go.Proofs.YtcfmonlgpccndaaDoor
open Go.RowKit

theorem ownsRow_slice0 {w : World} {B : Nat} {e : TypeId} {s : Nat} {v : Value} {n : Nat} {xs : List Value} (h : w.ownsRow B e s v n xs) : ∃ a c, v = .slice a n c := by
  rcases h.2 with ⟨rfl, rfl⟩ | ⟨g, cap, cur, rfl, _⟩
  · exact ⟨none, 0, rfl⟩
  · exact ⟨_, cap, rfl⟩

/-- Of a run of append: where the new row lies. -/
theorem run_append_rowsO {P : Program} (w : World) (B : Nat) (t ty e : TypeId) (i : TypeInfo) (z : Value) (size bytes : Nat) (ht : P.underlying t = some (.slice e)) (hi : P.info? e = some i) (hz : i.zero = some z)
    (hsize : i.size = size) (hby : i.bytes = bytes) (hzs : z.cells.size = size) (hsz : 0 < size) (v : Value) (n : Nat) (xs : List Value) (hown : w.ownsRow B e size v n xs)
    (A : Option Addr) (m c : Nat) (news : List Value) (hl : news.length = m * size) (hA : A = none → c = 0) (hmc : m ≤ c) (hnews : ∀ ad, A = some ad → ∀ j u, news[j]? = some u → w.cell? (ad.add j) = some u) (h1 : ∀ u ∈ news, u.oneCell' = true)
    (hn : n + m ≤ maxLen) (hb : (n + m) * bytes ≤ 140737488355328) (hbase : B ≤ w.heap.size) :
    ∃ a' c' w', (Builtin.append_ #[t, t] ty #[v, .slice A m c]).run P w = .ok (.slice a' (n + m) c') w' ∧ w'.ownsRow B e size (.slice a' (n + m) c') (n + m) (xs ++ news) ∧ w.grownBy w' v.ownBlock ∧ NewRow w v (.slice a' (n + m) c') := by
  cases A with
  | none =>
    obtain rfl := hA rfl
    obtain rfl : m = 0 := by omega
    have hb : news = [] := List.eq_nil_of_length_eq_zero (by simpa using hl)
    subst hb
    have hrun := run_append_owned_none (P := P) (w := w) B t ty e i size ht hi v n xs hown
    obtain ⟨a', c', rfl⟩ := ownsRow_slice0 hown
    refine ⟨a', c', w, ?_, by simpa using hown, ⟨rfl, rfl, rfl, Nat.le_refl _, fun _ _ _ => rfl⟩, Or.inl rfl⟩
    simpa using hrun
  | some ad =>
    obtain ⟨v', w', hr, ho, hg, _⟩ := run_append_own (P := P) w B t ty e i z size bytes ht hi hz hsize hby hzs hsz v n xs hown ad m c news hl (hnews ad rfl) h1 hn hb hbase
    obtain ⟨a', c', rfl⟩ := ownsRow_slice0 ho
    refine ⟨a', c', w', hr, ho, hg, ?_⟩
    rcases hown.2 with ⟨rfl, rfl⟩ | ⟨g, cap, cur, rfl, _, hgg, hnc, hcm, hcs, htake⟩
    · right
      have hx : xs = [] := List.eq_nil_of_length_eq_zero (by simpa using hown.1)
      subst hx
      obtain ⟨v2, w2, hr2, ho2, _⟩ := run_append_own (P := P) w w.heap.size t ty e i z size bytes ht hi hz hsize hby hzs hsz (.slice none 0 0) 0 [] (World.ownsRow_nil _ _ _ _) ad m c news hl (hnews ad rfl) h1 hn hb (Nat.le_refl _)
      rw [hr] at hr2
      injection hr2 with e1 e2
      subst e1; subst e2
      exact fun k hk => (ho2.lt k hk).1
    · by_cases hroom : n + m ≤ cap
      · left
        have hr2 := run_append_room (P := P) w t ty e i ht hi g n cap cur hgg ad m c news (by rw [hsize]; exact hl) (hnews ad rfl) h1 hroom (by rw [hsize, hl, hcs, ← Nat.add_mul]; exact Nat.mul_le_mul_right _ hroom)
        rw [hr] at hr2
        injection hr2 with e1 e2
        injection e1 with e1 _ _
        subst e1; rfl
      · right
        have hsmall : n + m ≤ 9223372036854775807 := by simp only [maxLen] at hn; omega
        have hr2 := run_append_grow (P := P) w t ty e i z ht hi hz ⟨g, 0, none⟩ n cap xs (by rw [hsize]; exact hown.1) (hown.cells (g := g) rfl) ad m c news (by rw [hsize]; exact hl) (hnews ad rfl) (by omega) (by omega) (growslice_fits (by omega) (by rw [hby]; omega))
        rw [hr] at hr2
        injection hr2 with e1 e2
        injection e1 with e1 _ _
        subst e1
        intro k hk
        simp [Value.ownBlock] at hk
        omega

end Go.Proofs.YtcfmonlgpccndaaDoor


/- blocks: pointers, rows of pointers in memory; append of pointers. -/
namespace Go.Proofs.YtcfmonlgpccndaaDoor
open Go.RowKit Go.Shelf
set_option maxRecDepth 100000
set_option linter.unusedSimpArgs false

structure Pt where
  c : Int
  l : Int
  n : Int
  a : Int
  k : Int
deriving DecidableEq, Inhabited
def Pt.cells (x : Pt) : List Value := [.int .i64 x.c, .int .i64 x.l, .int .i64 x.n, .int .i64 x.a, .int .i64 x.k]
def ptV (x : Pt) : Value := .agg x.cells.toArray
def pZ : Pt := ⟨0, 0, 0, 0, 0⟩
def pcells (ps : List Pt) : List Value := ps.flatMap Pt.cells
theorem pcells_length (ps : List Pt) : (pcells ps).length = ps.length * 5 := by
  induction ps with
  | nil => rfl
  | cons d ds ih => simp only [pcells, List.flatMap_cons, List.length_append, Pt.cells, List.length_cons, List.length_nil] at *; omega
theorem pcells_append (a b : List Pt) : pcells (a ++ b) = pcells a ++ pcells b := by simp [pcells]
theorem pcells_cons (m : Pt) (b : List Pt) : pcells (m :: b) = m.cells ++ pcells b := by simp [pcells]
theorem pcells_in : ∀ (ds : List Pt) (i : Nat) (h : i < ds.length) (j : Nat), j < 5 → (pcells ds)[i * 5 + j]? = ds[i].cells[j]?
  | d :: ds, 0, _, j, hj => by
    rw [pcells_cons, Nat.zero_mul, Nat.zero_add, List.getElem?_append_left (by simpa [Pt.cells] using hj)]
    rfl
  | d :: ds, i + 1, h, j, hj => by
    have ih := pcells_in ds i (by simpa using h) j hj
    rw [pcells_cons, List.getElem?_append_right (by simp [Pt.cells]; omega)]
    simp only [List.getElem_cons_succ]
    rw [← ih]
    congr 1
    simp [Pt.cells]
    omega
theorem pcells_take (ms : List Pt) (n : Nat) : pcells (ms.take n) = (pcells ms).take (n * 5) := by
  induction ms generalizing n with
  | nil => simp [pcells]
  | cons m ms ih =>
    cases n with
    | zero => simp [pcells]
    | succ n =>
      rw [List.take_succ_cons, pcells_cons, pcells_cons, ih, show (n + 1) * 5 = n * 5 + 5 by omega]
      rfl
theorem pcells_drop (ms : List Pt) (n : Nat) : pcells (ms.drop n) = (pcells ms).drop (n * 5) := by
  induction ms generalizing n with
  | nil => simp [pcells]
  | cons m ms ih =>
    cases n with
    | zero => simp [pcells]
    | succ n =>
      rw [List.drop_succ_cons, pcells_cons, ih, show (n + 1) * 5 = n * 5 + 5 by omega]
      rfl
theorem pcells_one (ds : List Pt) : ∀ u ∈ pcells ds, u.oneCell' = true := by
  intro u hu
  simp only [pcells, List.mem_flatMap] at hu
  obtain ⟨d, hd, hm⟩ := hu
  simp [Pt.cells] at hm
  rcases hm with rfl | rfl | rfl | rfl | rfl <;> rfl
theorem cells_one (x : Pt) : x.cells.toArray.all (·.oneCell') = true := by simp [Pt.cells, Value.oneCell']

theorem iPtr : (Tryd.prog.info? 36).map (fun i => (i.zero, i.size, i.bytes)) = some (some (ptV pZ), 5, 40) := by kernel_rfl
theorem iPtr2 : (Tryd.prog.info? 36).map (fun i => (i.zero, i.size)) = some (some (ptV pZ), 5) := by kernel_rfl
theorem sPtr : (Tryd.prog.info? 36).map (·.size) = some 5 := by kernel_rfl
theorem uPtr : Tryd.prog.underlying 36 = some (.struct (Tryd.prog.fieldsOf 36)) := by kernel_rfl
theorem ptrs_elem : Tryd.prog.underlying 57 = some (.slice (Tryd.prog.elem 57)) := by kernel_rfl
theorem ptrs_el : Tryd.prog.elem 57 = 36 := by kernel_rfl
theorem size_ptr (W : World) : (sizeOf 36).run Tryd.prog W = .ok 5 W := by
  obtain ⟨i0, hi, hz0, hz1, hz2⟩ := info_parts iPtr
  simp [sizeOf, typeInfo, hi, hz1, Result.andThen]

/-- A slice of pointers, to be read; it lies in none of the blocks of M. -/
def PtsAt (w : World) (M : List Nat) (v : Value) (ps : List Pt) : Prop :=
  ∃ (a : Option Addr) (cap : Nat), v = .slice a ps.length cap ∧ ps.length ≤ cap ∧ cap ≤ maxLen ∧ (a = none → cap = 0) ∧
    (∀ ad, a = some ad → ∃ g off, ad = ⟨g, off, none⟩ ∧ g < w.heap.size ∧ g ∉ M ∧ w.rangeAt g off (pcells ps))
theorem PtsAt.nil (w : World) (M : List Nat) : PtsAt w M (.slice none 0 0) [] := ⟨none, 0, rfl, by simp, by simp, fun _ => rfl, fun _ h => by cases h⟩
theorem PtsAt.keep {w w' : World} {M S : List Nat} {v : Value} {ps : List Pt} (h : PtsAt w M v ps) (k : Keeps S w w') (hs : ∀ b ∈ S, b ∈ M) : PtsAt w' M v ps := by
  obtain ⟨a, cap, rfl, h1, h2, h0, h4⟩ := h
  refine ⟨a, cap, rfl, h1, h2, h0, fun ad had => ?_⟩
  obtain ⟨g, off, rfl, hg, hM, hc⟩ := h4 ad had
  exact ⟨g, off, rfl, Nat.lt_of_lt_of_le hg k.size, hM, fun j u hu => k.cell' (hc j u hu) (fun hm => hM (hs _ hm))⟩
theorem PtsAt.later {w w' : World} {M : List Nat} {v : Value} {ps : List Pt} (h : PtsAt w M v ps) (k : Keeps [] w w') : PtsAt w' M v ps := h.keep k (by simp)
theorem PtsAt.more {w : World} {M N : List Nat} {v : Value} {ps : List Pt} (h : PtsAt w M v ps) (hN : ∀ b ∈ N, b ∈ M ∨ w.heap.size ≤ b) : PtsAt w N v ps := by
  obtain ⟨a, cap, rfl, h1, h2, h0, h4⟩ := h
  refine ⟨a, cap, rfl, h1, h2, h0, fun ad had => ?_⟩
  obtain ⟨g, off, rfl, hg, hM, hc⟩ := h4 ad had
  exact ⟨g, off, rfl, hg, fun hm => by
    rcases hN g hm with h | h
    · exact hM h
    · omega, hc⟩
theorem PtsAt.shape {w : World} {M : List Nat} {v : Value} {ps : List Pt} (h : PtsAt w M v ps) : ∃ a c, v = .slice a ps.length c := by
  obtain ⟨a, cap, rfl, _⟩ := h
  exact ⟨a, cap, rfl⟩
theorem PtsAt.two {w : World} {M : List Nat} {v : Value} {ps : List Pt} (h : PtsAt w M v ps) : (v = .slice none 0 0 ∧ ps = []) ∨ ∃ g off cap, v = .slice (some ⟨g, off, none⟩) ps.length cap ∧ ps.length ≤ cap ∧ cap ≤ maxLen ∧ g < w.heap.size ∧ g ∉ M ∧ w.rangeAt g off (pcells ps) := by
  obtain ⟨a, cap, rfl, h1, h2, h0, h4⟩ := h
  cases a with
  | none =>
    obtain rfl := h0 rfl
    have : ps = [] := List.eq_nil_of_length_eq_zero (by omega)
    subst this
    exact Or.inl ⟨rfl, rfl⟩
  | some ad =>
    obtain ⟨g, off, rfl, hg, hM, hc⟩ := h4 ad rfl
    exact Or.inr ⟨g, off, cap, rfl, h1, h2, hg, hM, hc⟩
theorem PtsAt.open {w : World} {M : List Nat} {a : Option Addr} {n cap : Nat} {ps : List Pt} (h : PtsAt w M (.slice a n cap) ps) (hne : 0 < ps.length) :
    ∃ g off, a = some ⟨g, off, none⟩ ∧ n = ps.length ∧ ps.length ≤ cap ∧ g < w.heap.size ∧ g ∉ M ∧ w.rangeAt g off (pcells ps) := by
  rcases h.two with ⟨_, rfl⟩ | ⟨g, off, cap', hv, h1, h2, hg, hM, hc⟩
  · simp at hne
  · injection hv with e1 e2 e3
    subst e1; subst e2; subst e3
    exact ⟨g, off, rfl, rfl, h1, hg, hM, hc⟩
theorem range_pt {w : World} {g off : Nat} {ps : List Pt} (h : w.rangeAt g off (pcells ps)) (i : Nat) (hi : i < ps.length) : w.rangeAt g (off + i * 5) ps[i].cells := fun j u hu => by
  have hj : j < 5 := by
    have := (List.getElem?_eq_some_iff.1 hu).1
    simpa [Pt.cells] using this
  have := h (i * 5 + j) u (by rw [pcells_in ps i hi j hj]; exact hu)
  rwa [← Nat.add_assoc] at this
theorem PtsAt.cells {w : World} {M : List Nat} {a : Option Addr} {n c : Nat} {ps : List Pt} (h : PtsAt w M (.slice a n c) ps) : ∀ ad, a = some ad → ∀ j u, (pcells ps)[j]? = some u → w.cell? (ad.add j) = some u := by
  rintro ad had j u hu
  have hne : 0 < ps.length := by
    cases ps with
    | nil => simp [pcells] at hu
    | cons _ _ => simp
  obtain ⟨g, off, e, _, _, _, _, hc⟩ := h.open hne
  rw [had] at e
  obtain rfl := Option.some.inj e
  rw [Addr.add_lit]
  exact hc j u hu

/-- Pointers of the call's own. -/
structure OwnP (w : World) (B : Nat) (M : List Nat) (v : Value) (ps : List Pt) : Prop where
  row : w.ownsRow B 36 5 v ps.length (pcells ps)
  lt : ∀ b ∈ M, b < B
theorem OwnP.nil (w : World) (B : Nat) (M : List Nat) (hM : ∀ b ∈ M, b < B) : OwnP w B M (.slice none 0 0) [] := ⟨World.ownsRow_nil _ _ _ _, hM⟩
theorem ownsRow_keepP {w w' : World} {B : Nat} {e : TypeId} {s n : Nat} {v : Value} {xs : List Value} {S : List Nat} (h : w.ownsRow B e s v n xs) (k : Keeps S w w') (hs : ∀ b, v.ownBlock = some b → b ∉ S) : w'.ownsRow B e s v n xs := by
  rcases h.2 with ⟨rfl, h0⟩ | ⟨g, cap, cur, rfl, hb, hg, hnc, hcm, hcs, ht⟩
  · exact ⟨h.1, .inl ⟨rfl, h0⟩⟩
  · exact ⟨h.1, .inr ⟨g, cap, cur, rfl, hb, (k.block g (lt_of_block hg) (hs g rfl)).trans hg, hnc, hcm, hcs, ht⟩⟩
theorem OwnP.blk {w B M v ps} (h : OwnP w B M v ps) : ∀ k, v.ownBlock = some k → B ≤ k ∧ k < w.heap.size := h.row.lt
theorem OwnP.keep {w w' : World} {B : Nat} {M S : List Nat} {v : Value} {ps : List Pt} (h : OwnP w B M v ps) (k : Keeps S w w') (hs : ∀ b ∈ S, b ∈ M) : OwnP w' B M v ps :=
  ⟨ownsRow_keepP h.row k (fun b hb hm => by have := (h.blk b hb).1; have := h.lt b (hs b hm); omega), h.lt⟩
theorem OwnP.later {w w' : World} {B : Nat} {M : List Nat} {v : Value} {ps : List Pt} (h : OwnP w B M v ps) (k : Keeps [] w w') : OwnP w' B M v ps := h.keep k (by simp)
theorem OwnP.shape {w B M v ps} (h : OwnP w B M v ps) : ∃ a c, v = .slice a ps.length c := by
  rcases h.row.2 with ⟨rfl, e⟩ | ⟨g, cap, cur, rfl, _⟩
  · exact ⟨none, 0, by rw [e]⟩
  · exact ⟨_, cap, rfl⟩
theorem OwnP.at {w B M v ps} (h : OwnP w B M v ps) : PtsAt w M v ps := by
  rcases h.row.2 with ⟨rfl, h0⟩ | ⟨g, cap, cur, rfl, hb, hg, hnc, hcm, hcs, ht⟩
  · rw [List.eq_nil_of_length_eq_zero h0]
    exact PtsAt.nil w M
  · refine ⟨_, cap, rfl, hnc, hcm, by simp, fun ad had => ⟨g, 0, (Option.some.inj had).symm, lt_of_block hg, fun hm => by have := h.lt g hm; omega, fun j u hu => ?_⟩⟩
    have := h.row.cells (g := g) rfl j u hu
    rw [Addr.add_lit] at this
    exact this

/-- append of pointers onto pointers of the call's own. -/
theorem append_pts {w : World} {B : Nat} {M N : List Nat} {v : Value} {ps es : List Pt} (h : OwnP w B M v ps) (A : Option Addr) (n c : Nat) (hs : PtsAt w N (.slice A n c) es) (hl : ps.length + es.length ≤ 100000) (hB : B ≤ w.heap.size) (ty : TypeId) :
    ∃ a' c' w', (Builtin.append_ #[57, 57] ty #[v, .slice A n c]).run Tryd.prog w = .ok (.slice a' (ps.length + n) c') w' ∧ OwnP w' B M (.slice a' (ps.length + n) c') (ps ++ es) ∧ Keeps v.ownBlock.toList w w' := by
  obtain ⟨i, hi, hz, hz3, hz40⟩ := info_parts iPtr
  obtain ⟨a0, c0, hv0, h1, h2, h0, h4⟩ := id hs
  injection hv0 with e1 e2 e3
  subst e1; subst e2; subst e3
  obtain ⟨a', c', w', hr, ho, hg, hn⟩ := run_append_rowsO (P := Tryd.prog) w B 57 ty 36 i _ 5 40 Tryd.underlying57 hi hz hz3 hz40 rfl (by omega) v ps.length (pcells ps) h.row A es.length c (pcells es) (pcells_length es) h0 h1
    (fun ad had j u hu => hs.cells ad had j u hu) (pcells_one es) (by unfold maxLen; omega) (by omega) hB
  exact ⟨a', c', w', hr, ⟨by rw [List.length_append, pcells_append]; exact ho, h.lt⟩, (Keeps.refl _ _).grown hg (fun k hk => Or.inl (by simp [hk]))⟩

theorem zeros_pts (m : Nat) : (Builtin.zeroCells (ptV pZ).cells m).toList = pcells (List.replicate m pZ) := by
  have e : (ptV pZ).cells = #[.int .i64 0, .int .i64 0, .int .i64 0, .int .i64 0, .int .i64 0] := rfl
  rw [e]
  apply List.ext_getElem?
  intro j
  simp only [Builtin.zeroCells, Array.toList_map, Array.toList_range, List.getElem?_map]
  have hsz : (#[Value.int .i64 0, .int .i64 0, .int .i64 0, .int .i64 0, .int .i64 0] : Array Value).size = 5 := rfl
  rw [hsz]
  by_cases h : j < m * 5
  · rw [List.getElem?_range h]
    have hi : j / 5 < m := by omega
    have hj : j % 5 < 5 := Nat.mod_lt _ (by omega)
    have e2 := pcells_in (List.replicate m pZ) (j / 5) (by simpa using hi) (j % 5) hj
    rw [show j / 5 * 5 + j % 5 = j by omega] at e2
    rw [e2, List.getElem_replicate, Option.map_some]
    generalize j % 5 = k at hj
    match k, hj with
    | 0, _ => rfl
    | 1, _ => rfl
    | 2, _ => rfl
    | 3, _ => rfl
    | 4, _ => rfl
  · rw [List.getElem?_eq_none (by simpa using h), List.getElem?_eq_none (by rw [pcells_length]; simpa using h)]
    rfl

/-- append of so many noughts onto pointers without room behind them. -/
theorem append_make (w : World) (M : List Nat) (hM : ∀ b ∈ M, b < w.heap.size) (ty : TypeId) (a : Option Addr) (ps : List Pt) (m : Nat) (h : PtsAt w M (.slice a ps.length ps.length) ps) (hb : ps.length + m ≤ 1000) :
    ∃ a' c' w', (Builtin.append_ #[57, 3] ty #[.slice a ps.length ps.length, .int .i64 (m : Int)]).run Tryd.prog w = .ok (.slice a' (ps.length + m) c') w' ∧ PtsAt w' M (.slice a' (ps.length + m) c') (ps ++ List.replicate m pZ) ∧ Keeps [] w w' := by
  obtain ⟨i, hi, hz, hz5, hz40⟩ := info_parts iPtr
  have hw : IntKind.i64.wrap (m : Int) = (m : Int) := IntWalk.i64_in _ (by omega)
  have hn0 : ¬ ((m : Int) < 0) := by omega
  have hn1 : ¬ (281474976710656 < (m : Int) * 40) := by omega
  have hw0 : IntKind.i64.wrap (0 : Int) = 0 := by decide
  have uI : Tryd.prog.underlying 3 = some (.int .i64) := by kernel_rfl
  by_cases hm : m = 0
  · subst hm
    refine ⟨a, ps.length, w, ?_, by simpa using h, Keeps.refl _ _⟩
    cases a with
    | none => simp [Builtin.append_, run_underlying Tryd.underlying57, run_underlying uI, sizeOf, typeInfo, zeroValue, hi, hz, hz5, hz40, asInt, asIntOf, hw0]
    | some ad => simp [Builtin.append_, run_underlying Tryd.underlying57, run_underlying uI, sizeOf, typeInfo, zeroValue, hi, hz, hz5, hz40, asInt, asIntOf, hw0, storeCells]
  · have hg : ¬ (ps.length + m ≤ ps.length) := by omega
    have hk := grownCap_ge w (ps.length + m) ps.length 36
    have hcm : grownCap w (ps.length + m) ps.length 36 ≤ maxLen := grownCap_le_maxLen w _ _ _ (by unfold maxLen; omega)
    have hfit : ¬ (281474976710656 < Builtin.nextslicecap (ps.length + m) ps.length * 40) := by have := nextslicecap_le (need := ps.length + m) (old := ps.length) (by omega); omega
    have h63' : ¬ (9223372036854775807 < ((ps.length : Int) + (m : Int))) := by omega
    have hm5 : ¬ (m = 0 ∨ 5 = 0) := by omega
    have hf : (Builtin.firstCells 5 ps.length (.slice a ps.length ps.length)).run Tryd.prog w.drew = .ok (pcells ps).toArray w.drew := by
      cases a with
      | none =>
        obtain ⟨a', cap', hv, h1, h2, h0, h4⟩ := h
        injection hv with e1 e2 e3
        have : ps.length = 0 := by rw [e3]; exact h0 e1.symm
        rw [List.eq_nil_of_length_eq_zero this]
        simp [Builtin.firstCells, pcells]
      | some ad =>
        exact run_firstCells_some (P := Tryd.prog) w.drew 5 ps.length ad ps.length ps.length (pcells ps) (pcells_length ps) (fun j v hj => by rw [World.cell?_drew]; exact h.cells ad rfl j v hj)
    refine ⟨some ⟨w.heap.size, 0, none⟩, grownCap w (ps.length + m) ps.length 36, w.drew.alloc (.cells ((pcells ps).toArray ++ Builtin.zeroCells (ptV pZ).cells m ++ Builtin.zeroCells (ptV pZ).cells (grownCap w (ps.length + m) ps.length 36 - (ps.length + m))) 36), ?_, ?_, ((Keeps.refl [] w).drew).alloc _⟩
    · simp [Builtin.append_, run_underlying Tryd.underlying57, run_underlying uI, sizeOf, typeInfo, zeroValue, hi, hz, hz5, hz40, asInt, asIntOf, hw, hn0, hn1, hg, h63', hfit, hm5, Question.forced, hf, newRow, grownCap]
      intro h0; omega
    · refine ⟨_, _, by simp, by simpa using hk, hcm, by simp, fun ad had => ⟨w.heap.size, 0, (Option.some.inj had).symm, by simp, fun hmm => by have := hM _ hmm; omega, fun j u hu => ?_⟩⟩
      have hb2 := heap_alloc_new w.drew (.cells ((pcells ps).toArray ++ Builtin.zeroCells (ptV pZ).cells m ++ Builtin.zeroCells (ptV pZ).cells (grownCap w (ps.length + m) ps.length 36 - (ps.length + m))) 36)
      have hs2 : w.drew.heap.size = w.heap.size := rfl
      rw [hs2] at hb2
      rw [cell_of_row _ _ _ _ _ _ hb2, Nat.zero_add, ← Array.getElem?_toList, Array.toList_append, Array.toList_append, zeros_pts]
      rw [List.getElem?_append_left (by
        have := (List.getElem?_eq_some_iff.1 hu).1
        rw [pcells_append] at this
        simpa using this)]
      rw [pcells_append] at hu
      simpa using hu
end Go.Proofs.YtcfmonlgpccndaaDoor


/- blocks: pointers are compared; isZero, within, May. -/
namespace Go.Proofs.YtcfmonlgpccndaaDoor
open Go.RowKit Go.Shelf
set_option maxRecDepth 100000
set_option linter.unusedSimpArgs false

def eqP (a b : Pt) : Bool := decide (a = b)
def zB (x : Pt) : Bool := decide (x = pZ)
/-- May the pointer be? -/
def mayP (x : Pt) : Bool := zB x || (btw x.c 0 4 && btw x.l 0 1048576 && btw x.n 0 1073741824 && btw x.a 0 5999 && btw x.k 1 (min 64 (6000 - x.a)))
theorem zB_is {x : Pt} : zB x = true ↔ x = pZ := by simp [zB]

theorem eqPts (w : World) (a b : Pt) : (binOp .eql 36 (ptV a) (ptV b)).run Tryd.prog w = .ok (.bool (a.c == b.c && a.l == b.l && a.n == b.n && a.a == b.a && a.k == b.k)) w := by
  have f1 : Tryd.prog.underlying 36 = some (.struct (Tryd.prog.fieldsOf 36)) := by kernel_rfl
  have f2 : Tryd.prog.underlying 29 = some (.struct (Tryd.prog.fieldsOf 29)) := by kernel_rfl
  have p1 : ∀ (z : Pt) w, (part 29 #[.int .i64 z.c, .int .i64 z.l, .int .i64 z.n, .int .i64 z.a, .int .i64 z.k] 0).run Tryd.prog w = .ok (.agg #[.int .i64 z.c, .int .i64 z.l, .int .i64 z.n]) w := fun z w => by kernel_rfl
  have p3 : ∀ (z : Pt) w, (part 3 #[.int .i64 z.c, .int .i64 z.l, .int .i64 z.n, .int .i64 z.a, .int .i64 z.k] 3).run Tryd.prog w = .ok (.int .i64 z.a) w := fun z w => by kernel_rfl
  have p4 : ∀ (z : Pt) w, (part 3 #[.int .i64 z.c, .int .i64 z.l, .int .i64 z.n, .int .i64 z.a, .int .i64 z.k] 4).run Tryd.prog w = .ok (.int .i64 z.k) w := fun z w => by kernel_rfl
  have q : ∀ (x y z : Int), (∀ w, (part 3 #[.int .i64 x, .int .i64 y, .int .i64 z] 0).run Tryd.prog w = .ok (.int .i64 x) w) ∧ (∀ w, (part 3 #[.int .i64 x, .int .i64 y, .int .i64 z] 1).run Tryd.prog w = .ok (.int .i64 y) w) ∧ (∀ w, (part 3 #[.int .i64 x, .int .i64 y, .int .i64 z] 2).run Tryd.prog w = .ok (.int .i64 z) w) := fun x y z => ⟨fun w => by kernel_rfl, fun w => by kernel_rfl, fun w => by kernel_rfl⟩
  have u : Tryd.prog.underlying 3 = some (.int .i64) := by kernel_rfl
  have i : ∀ (d : Nat) (x y : Int) (w : World), (Op.equalIn (d + 1) 3 (.int .i64 x) (.int .i64 y)).run Tryd.prog w = .ok (x == y) w := fun d x y w => run_equalIn_int w d 3 .i64 .i64 x y u
  have i8 : ∀ (x y : Int) (w : World), (Op.equalIn 9998 3 (.int .i64 x) (.int .i64 y)).run Tryd.prog w = .ok (x == y) w := i 9997
  have i9 : ∀ (x y : Int) (w : World), (Op.equalIn 9999 3 (.int .i64 x) (.int .i64 y)).run Tryd.prog w = .ok (x == y) w := i 9998
  have g1 : (Tryd.prog.fieldsOf 36).toList.map (fun f => (f.name != "_", f.type, f.offset)) = [(true, 29, 0), (true, 3, 3), (true, 3, 4)] := by kernel_rfl
  have g2 : (Tryd.prog.fieldsOf 29).toList.map (fun f => (f.name != "_", f.type, f.offset)) = [(true, 3, 0), (true, 3, 1), (true, 3, 2)] := by kernel_rfl
  have S : ∀ w, (Op.equalIn 9999 29 (.agg #[.int .i64 a.c, .int .i64 a.l, .int .i64 a.n]) (.agg #[.int .i64 b.c, .int .i64 b.l, .int .i64 b.n])).run Tryd.prog w = .ok (a.c == b.c && a.l == b.l && a.n == b.n) w := fun w => by
    rw [run_equalIn_agg w 9998 29 _ _ f2 (by kernel_rfl)]
    generalize (Tryd.prog.fieldsOf 29).toList = fs at g2 ⊢
    obtain ⟨x, y, z, rfl⟩ : ∃ x y z, fs = [x, y, z] := by
      have hl := congrArg List.length g2
      rw [List.length_map] at hl
      match fs, hl with
      | [x, y, z], _ => exact ⟨x, y, z, rfl⟩
    · clear g1
      simp only [List.map_cons, List.map_nil, List.cons.injEq, Prod.mk.injEq, and_true, bne_iff_ne] at g2
      obtain ⟨⟨n1, t1, o1⟩, ⟨n2, t2, o2⟩, n3, t3, o3⟩ := g2
      cases h1 : a.c == b.c <;> cases h2 : a.l == b.l <;> cases h3 : a.n == b.n <;>
        simp only [Op.eqFields, n1, n2, n3, t1, t2, t3, o1, o2, o3, (q _ _ _).1, (q _ _ _).2.1, (q _ _ _).2.2, i8, h1, h2, h3, if_true, if_false, Bool.not_true, Bool.not_false, Bool.false_eq_true, Sem.run_bind, Sem.run_ite, Sem.run_pure, Result.andThen_ok, ne_eq, not_false_eq_true, Bool.and_true, Bool.and_false, Bool.false_and, Bool.true_and]
  unfold ptV Pt.cells
  rw [run_eql_struct, run_equalIn_agg w 9999 36 _ _ f1 (by kernel_rfl)]
  generalize (Tryd.prog.fieldsOf 36).toList = fs at g1 ⊢
  obtain ⟨x, y, v, rfl⟩ : ∃ x y v, fs = [x, y, v] := by
    have hl := congrArg List.length g1
    rw [List.length_map] at hl
    match fs, hl with
    | [x, y, v], _ => exact ⟨x, y, v, rfl⟩
  · clear g2
    simp only [List.map_cons, List.map_nil, List.cons.injEq, Prod.mk.injEq, and_true, bne_iff_ne] at g1
    obtain ⟨⟨n1, t1, o1⟩, ⟨n2, t2, o2⟩, n3, t3, o3⟩ := g1
    cases h1 : (a.c == b.c && a.l == b.l && a.n == b.n) <;> cases h2 : a.a == b.a <;> cases h3 : a.k == b.k <;>
      simp only [Op.eqFields, n1, n2, n3, t1, t2, t3, o1, o2, o3, p1, p3, p4, S, h1, h2, h3, i9, if_true, if_false, Bool.not_true, Bool.not_false, Bool.false_eq_true, Sem.run_bind, Sem.run_ite, Sem.run_pure, Result.andThen_ok, ne_eq, not_false_eq_true, Bool.and_true, Bool.and_false, Bool.false_and, Bool.true_and]
theorem eqPts_is (a b : Pt) : (a.c == b.c && a.l == b.l && a.n == b.n && a.a == b.a && a.k == b.k) = eqP a b := by
  obtain ⟨a1, a2, a3, a4, a5⟩ := a
  obtain ⟨b1, b2, b3, b4, b5⟩ := b
  unfold eqP
  simp only [Pt.mk.injEq]
  rw [Bool.eq_iff_iff]
  simp [and_assoc]
theorem guardPt (w : World) (op : BinOp) (x y : Operand) (a b : Pt) : (eqGuard op 36 x y (ptV a) (ptV b)).run Tryd.prog w = .ok () w := run_eqGuard_agg w op 36 x y _ _ (by kernel_rfl)
theorem exec_eqPts {ρ : Operand → Value} {o : Oper} {w : World} (x y : Operand) (u : TypeId) (a b : Pt) (ho : o.op = .binOp .eql 36 x y u) (hx : ρ x = ptV a) (hy : ρ y = ptV b) : (execOp ρ o).run Tryd.prog w = .ok (.value (.bool (eqP a b))) w := by
  have hg := guardPt w .eql x y a b
  simp only [execOp, ho, hx, hy, Sem.run_bind, hg, eqPts, eqPts_is, Result.andThen_ok, Sem.run_pure]
theorem exec_neqPts {ρ : Operand → Value} {o : Oper} {w : World} (x y : Operand) (u : TypeId) (a b : Pt) (ho : o.op = .binOp .neq 36 x y u) (hx : ρ x = ptV a) (hy : ρ y = ptV b) : (execOp ρ o).run Tryd.prog w = .ok (.value (.bool (!eqP a b))) w := by
  have hg := guardPt w .neq x y a b
  have hr := eqPts w a b
  unfold ptV at hr
  rw [run_eql_struct] at hr
  have hn : (binOp .neq 36 (ptV a) (ptV b)).run Tryd.prog w = .ok (.bool (!eqP a b)) w := by
    unfold ptV
    rw [run_neq_struct]
    cases hq : (Op.equalIn 10000 36 (.agg a.cells.toArray) (.agg b.cells.toArray)).run Tryd.prog w with
    | ok x w' =>
      rw [hq] at hr
      simp [Result.andThen] at hr ⊢
      rw [← eqPts_is]
      exact ⟨by rw [hr.1], hr.2⟩
    | _ => rw [hq] at hr; simp [Result.andThen] at hr
  simp only [execOp, ho, hx, hy, Sem.run_bind, hg, hn, Result.andThen_ok, Sem.run_pure]
theorem eqlAtPt : EqlAt Tryd.prog 36 (fun x : Pt => .agg x.cells.toArray) eqP := ⟨fun x y w => by have := eqPts w x y; rw [eqPts_is] at this; exact this, fun op a b x y w => guardPt w op a b x y⟩

theorem loadPt_run (W : World) (b off : Nat) (x : Pt) (hc : W.rangeAt b off x.cells) : (Instr.loadAt 36 (.pointer (some ⟨b, off, none⟩))).run Tryd.prog W = .ok (ptV x) W :=
  run_loadAt_mid W b off 36 x.cells _ hc uPtr rfl (by rw [sPtr]; rfl)
theorem buildPtZ (w : World) : (Instr.build 36 #[]).run Tryd.prog w = .ok (ptV pZ) w := by kernel_rfl
theorem exec_buildPtZ {ρ : Operand → Value} {o : Oper} {w : World} (ho : o.op = .build 36 #[]) : (execOp ρ o).run Tryd.prog w = .ok (.value (ptV pZ)) w := by
  simp only [execOp, ho, List.map_toArray, List.map_nil, Sem.run_bind, buildPtZ, Result.andThen_ok, Sem.run_pure]
section
variable {ops : Array Oper} {rest : List Oper} {o : Oper} {a : Act} {w : World} {Q : Exit → Act → World → Prop}
theorem wpList_loadPt (hgd : o.guard = none) (x : Operand) (ho : o.op = .load 36 x) (b off : Nat) (hx : a.eval x = .pointer (some ⟨b, off, none⟩)) (t : Pt) (hc : w.rangeAt b off t.cells)
    (hk : wpList Tryd.prog ops Q rest (a.put o.dst (ptV t)) w) : wpList Tryd.prog ops Q (o :: rest) a w :=
  wpList_load_mid hgd _ x ho b off hx t.cells _ hc uPtr rfl (by rw [sPtr]; rfl) hk
theorem wpList_boxPt (hgd : o.guard = none) (x : Operand) (ho : o.op = .box 36 x) (t : Pt) (hx : a.eval x = ptV t)
    (hk : wpList Tryd.prog ops Q rest (a.put o.dst (.pointer (some ⟨w.heap.size, 0, none⟩))) (w.alloc (.cells t.cells.toArray 36))) : wpList Tryd.prog ops Q (o :: rest) a w :=
  wpList_is hgd _ _ (exec_box 36 x _ hx ho) hk
end
theorem range_new (w : World) (cs : List Value) (T : TypeId) : (w.alloc (.cells cs.toArray T)).rangeAt w.heap.size 0 cs := fun j v hv => by
  rw [Nat.zero_add, cell_of_row _ _ j _ _ (0, 0) (heap_alloc_new w _)]
  simpa using hv
theorem range_keep {w w' : World} {S : List Nat} {b off : Nat} {cs : List Value} (h : w.rangeAt b off cs) (k : Keeps S w w') (hs : b ∉ S) : w'.rangeAt b off cs := fun j v hv => k.cell' (h j v hv) hs
theorem range_at {w : World} {b off : Nat} {x : Pt} (h : w.rangeAt b off x.cells) : w.cell? ⟨b, off, none⟩ = some (.int .i64 x.c) ∧ w.cell? ⟨b, off + 1, none⟩ = some (.int .i64 x.l) ∧ w.cell? ⟨b, off + 2, none⟩ = some (.int .i64 x.n) ∧ w.cell? ⟨b, off + 3, none⟩ = some (.int .i64 x.a) ∧ w.cell? ⟨b, off + 4, none⟩ = some (.int .i64 x.k) :=
  ⟨h 0 _ rfl, h 1 _ rfl, h 2 _ rfl, h 3 _ rfl, h 4 _ rfl⟩

theorem isZero_any (w : World) (x : Pt) : Calls Tryd.prog 49 #[ptV x] w fun e w' => e = .returned (.bool (zB x)) ∧ Keeps [] w w' := by
  have HR := hid (range_new w x.cells 36)
  go_enter Tryd.func49, Tryd.ntmps49
  go_wp2_with (first | (refine wpList_boxPt rfl _ rfl x rfl ?_) | (refine wpList_loadPt rfl _ rfl w.heap.size 0 rfl x HR.out ?_) | (refine wpList_is rfl _ _ (exec_buildPtZ rfl) ?_) | (refine wpList_is rfl _ _ (exec_eqPts _ _ _ x pZ rfl rfl rfl) ?_) | fail)
  go_ret
  exact ⟨rfl, (Keeps.refl [] w).alloc _⟩

theorem bwithin_as (w : World) (x lo hi : Int) (b : Bool) (h : btw x lo hi = b) : Calls Tryd.prog 47 #[.int .i64 x, .int .i64 lo, .int .i64 hi] w fun e w' => e = .returned (.bool b) ∧ w = w' := by
  subst h
  unfold btw
  by_cases h0 : lo ≤ x
  · by_cases h1 : x ≤ hi
    · go_enter Tryd.func47, Tryd.ntmps47
      go_wp2_with fail
      go_ret
      exact ⟨by simp [h0, h1], rfl⟩
    · go_enter Tryd.func47, Tryd.ntmps47
      go_wp2_with fail
      go_ret
      exact ⟨by simp [h1], rfl⟩
  · go_enter Tryd.func47, Tryd.ntmps47
    go_wp2_with fail
    go_ret
    exact ⟨by simp; omega, rfl⟩
end Go.Proofs.YtcfmonlgpccndaaDoor


/- layout: the laws' stripes, servers. -/
namespace Go.Proofs.YtcfmonlgpccndaaDoor
open Go.RowKit Go.Shelf
set_option maxRecDepth 100000
set_option linter.unusedSimpArgs false
set_option linter.unusedVariables false

theorem and64 (x m : Int) (m' : Nat) (e : m = m') (hm : m' ≤ 1073741824) : 0 ≤ bits BinOp.and IntKind.i64 x m ∧ bits BinOp.and IntKind.i64 x m ≤ m' := by
  subst e
  have h1 : (BitVec.ofInt 64 x &&& BitVec.ofInt 64 (m' : Int)).toNat ≤ m' := by
    rw [BitVec.toNat_and]
    refine Nat.le_trans Nat.and_le_right ?_
    rw [BitVec.ofInt_natCast, BitVec.toNat_ofNat]
    exact Nat.mod_le _ _
  show 0 ≤ IntKind.i64.wrap ((BitVec.ofInt 64 x &&& BitVec.ofInt 64 (m' : Int)).toNat : Int) ∧ IntKind.i64.wrap ((BitVec.ofInt 64 x &&& BitVec.ofInt 64 (m' : Int)).toNat : Int) ≤ _
  generalize (BitVec.ofInt 64 x &&& BitVec.ofInt 64 (m' : Int)).toNat = n at h1
  rw [IntWalk.i64_in _ (by omega)]
  omega
/-- A stripe by a number, as the laws have it. -/
def speM (m : Int) : Spe := ⟨bits .and .i64 m 3, bits .and .i64 (m / 4) 7, bits .and .i64 (m / 32) 16777215⟩
theorem speM_may (m : Int) : mayE (speM m) = true ∧ 0 ≤ (speM m).n ∧ (speM m).n ≤ 16777215 := by
  have a := and64 m 3 3 rfl (by decide)
  have b := and64 (m / 4) 7 7 rfl (by decide)
  have c := and64 (m / 32) 16777215 16777215 rfl (by decide)
  refine ⟨?_, c⟩
  unfold mayE msB
  rw [Bool.and_eq_true, Bool.and_eq_true, btw_is, btw_is, btw_is]
  refine ⟨⟨⟨a.1, ?_⟩, b.1, ?_⟩, c.1, ?_⟩
  · show bits .and .i64 m 3 ≤ 4; omega
  · show bits .and .i64 (m / 4) 7 ≤ 1048576; omega
  · show bits .and .i64 (m / 32) 16777215 ≤ 1073741824; omega
theorem buildSpe (s : Spe) (w : World) : (Instr.build 29 #[(0, .int .i64 s.c), (1, .int .i64 s.l), (2, .int .i64 s.n)]).run Tryd.prog w = .ok (speV s) w := by kernel_rfl
theorem exec_buildSpe {ρ : Operand → Value} {o : Oper} {w : World} (x0 x1 x2 : Operand) (ho : o.op = .build 29 #[(0, x0), (1, x1), (2, x2)]) (s : Spe) (h0 : ρ x0 = .int .i64 s.c) (h1 : ρ x1 = .int .i64 s.l) (h2 : ρ x2 = .int .i64 s.n) :
    (execOp ρ o).run Tryd.prog w = .ok (.value (speV s)) w := by
  simp only [execOp, ho, List.map_toArray, List.map_cons, List.map_nil, h0, h1, h2, Sem.run_bind, buildSpe, Result.andThen_ok, Sem.run_pure]
theorem spe_ret {fn : Func} {p : Tmp} (hr : fn.results = #[.cell p 29]) {tmps : Array Value} {w : World} {b : Nat} {s : Spe} (hp : tmps.getD p undef = .pointer (some ⟨b, 0, none⟩)) (hx : w.rangeAt b 0 s.cells) : (results fn tmps).run Tryd.prog w = .ok (speV s) w := by
  have hp' : tmps[p]?.getD undef = .pointer (some ⟨b, 0, none⟩) := by simpa using hp
  have hv : (loadVar 29 ⟨b, 0, none⟩).run Tryd.prog w = .ok (speV s) w := run_loadVar_mid w b 0 29 s.cells _ hx uStripe rfl (by rw [sStripe]; rfl)
  simp [results, hr, hp', asAddr, hv]
set_option maxHeartbeats 3200000 in
theorem yStripe_any (w : World) (m : Int) (hm : -9223372036854775808 ≤ m ∧ m ≤ 9223372036854775807) : Calls Tryd.prog 10 #[.int .i64 m] w fun e w' => e = .returned (speV (speM m)) ∧ Keeps [] w w' := by
  go_enter Tryd.func10, Tryd.ntmps10
  go_wp2_with fail
  refine bodyPost_ret (spe_ret (s := speM m) rfl rfl (range_cells (heap_alloc_new w _))) rfl ?_
  exact ⟨rfl, (Keeps.refl [] w).alloc _⟩
set_option maxHeartbeats 3200000 in
theorem yServers_any (w : World) (m : Int) : Calls Tryd.prog 17 #[.int .i64 m] w fun e w' => e = .returned (.int .i64 (3 + m % 14)) ∧ w = w' := by
  obtain ⟨b0, b1⟩ := tmod_b m (n := 14) (by decide)
  have c0 : 0 ≤ m % 14 := Int.emod_nonneg _ (by decide)
  have c1 : m % 14 < 14 := Int.emod_lt_of_pos _ (by decide)
  have E1 := hid (mod_once m (n := 14) (by decide))
  generalize hx : m.tmod 14 = x at *
  go_enter Tryd.func17, Tryd.ntmps17
  go_wp2_with fail
  go_ret
  exact ⟨ret_int (by have := E1.out; omega), rfl⟩
end Go.Proofs.YtcfmonlgpccndaaDoor
