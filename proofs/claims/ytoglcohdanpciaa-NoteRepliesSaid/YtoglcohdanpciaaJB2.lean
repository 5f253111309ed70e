/- ShelfBk, BkE, BkF, BkG, BkH, BkI, KitB, BkJ, BkK, BkL, BkM, OpenC, BkO. -/
import Derived.Shelf.SlicesQ.Contains
import Derived.Shelf.SlicesQ.IndexFunc
import Derived.Shelf.SlicesE.Clone
import Derived.Test.YtoglcohdanpciaaProg
import Derived.Test.YtoglcohdanpciaaJB1
import Derived.Test.YtoglcohdanpciaaJK
import Derived.OpenShut
import Derived.SizedLaws
import Derived.Deep.Slices
import Derived.Deep.Strs
import Derived.ChangeSame
/- The library's contracts of slices.Contains, Clone, IndexFunc laid over this program, by the library's tools (numbers by tokens). -/
namespace Go.Proofs
open Go.Shelf
end Go.Proofs


/- blocks: slices.Clone, slices.Contains, slices.IndexFunc over pointers. -/
namespace Go.Proofs.Ytoglcohdanpciaa
open Go.RowKit Go.Shelf
set_option maxRecDepth 100000
set_option linter.unusedSimpArgs false

theorem Keeps.ofBelowB {w w' : World} (h : Below w.heap.size w w') : Keeps [] w w' := ⟨h.os, h.tape, h.output, h.size, fun k hk _ => h.block k hk⟩
def hasP (l : List Pt) (x : Pt) : Bool := l.any fun y => eqP x y
theorem hasP_is {l : List Pt} {x : Pt} : hasP l x = true ↔ x ∈ l := by
  unfold hasP
  rw [List.any_eq_true]
  constructor
  · rintro ⟨y, hy, he⟩; rw [eqP_is.1 he]; exact hy
  · intro h; exact ⟨x, h, eqP_is.2 rfl⟩
theorem first_zero : ∀ (ps : List Pt), (¬ ∀ x ∈ ps, zB x = false) → ∃ k, ∃ hk : k < ps.length, zB ps[k] = true ∧ ∀ j (hj : j < ps.length), j < k → zB ps[j] = false
  | [], h => absurd (by simp) h
  | y :: r, h => by
    cases hy : zB y with
    | true => exact ⟨0, by simp, hy, fun j _ hj => absurd hj (Nat.not_lt_zero _)⟩
    | false =>
      obtain ⟨k, hk, hz, hno⟩ := first_zero r (fun hr => h (fun x hx => by
        rcases List.mem_cons.1 hx with rfl | hx
        · exact hy
        · exact hr x hx))
      refine ⟨k + 1, by simpa using hk, by simpa using hz, fun j hj hjk => ?_⟩
      cases j with
      | zero => exact hy
      | succ j => simpa using hno j (by simpa using hj) (by omega)
end Go.Proofs.Ytoglcohdanpciaa


/- blocks: slices of pointers cut, stored into; slices.DeleteFunc; Ptrs. -/
namespace Go.Proofs.Ytoglcohdanpciaa
open Go.RowKit Go.Shelf
set_option maxRecDepth 100000
set_option linter.unusedSimpArgs false

theorem addr_add00 : ∀ ad : Addr, ad.add 0 = ad := fun ad => by unfold Addr.add; split <;> simp_all
theorem setRow_keepsP {w : World} {b : Nat} {old cs : Array Value} {E : TypeId} (hb : w.heap[b]? = some (.cells old E (0, 0))) : (w.setRow b cs).heap[b]? = some (.cells cs E (0, 0)) ∧ Keeps [b] w (w.setRow b cs) :=
  ⟨setRow_heap w b old cs E (0, 0) hb, ⟨rfl, rfl, rfl, by simp [World.setRow], fun k _ hm => setRow_other w b k cs (by simpa using hm)⟩⟩
section
variable {ops : Array Oper} {rest : List Oper} {o : Oper} {a : Act} {w : World} {Q : Exit → Act → World → Prop}
/-- A pointer is stored into a row of them. -/
theorem exec_storePtAt {ρ : Operand → Value} (x y : Operand) (hop : o.op = .store 147 x y) (g off : Nat) (hx : ρ x = .pointer (some ⟨g, off, none⟩)) (cur : Array Value)
    (hb : w.heap[g]? = some (.cells cur 147 (0, 0))) (hfit : off + 5 ≤ cur.size) (t : Pt) (hy : ρ y = ptV t) :
    (execOp ρ o).run Try.prog w = .ok .skip (w.setRow g (cur.toList.take off ++ t.cells ++ cur.toList.drop (off + 5)).toArray) := by
  have hst := run_storeCells_at Try.prog g off 147 t.cells 0 cur w hb (by simpa [Pt.cells] using hfit) (fun v hv => pcells_one [t] v (by simpa [pcells] using hv))
  have hr : (Instr.storeAt 147 (.pointer (some ⟨g, off, none⟩)) (ptV t)).run Try.prog w = .ok () (w.setRow g (cur.toList.take off ++ t.cells ++ cur.toList.drop (off + 5)).toArray) := by
    obtain ⟨i0, hi, hz0, hz1, hz2⟩ := info_parts iPtr
    have e3 : (ptV t).cells = t.cells.toArray := rfl
    have e4 : t.cells.length = 5 := rfl
    simp only [Nat.add_zero, e4] at hst
    simp only [Instr.storeAt, Instr.sureAddr, Sem.run_bind, Sem.run_pure, Result.andThen_ok, storeVar]
    have e5 : t.cells.toArray.size = 5 := rfl
    simp [sizeOf, typeInfo, hi, hz1, e3, e4, e5, hst]
  unfold execOp
  simp only [hop, hx, hy, hr, Sem.run_bind, Result.andThen_ok]
  rfl
theorem wpList_storePtAt (hgd : o.guard = none) (x y : Operand) (hop : o.op = .store 147 x y) (g off : Nat) (hx : a.eval x = .pointer (some ⟨g, off, none⟩)) (cur : Array Value)
    (hb : w.heap[g]? = some (.cells cur 147 (0, 0))) (hfit : off + 5 ≤ cur.size) (t : Pt) (hy : a.eval y = ptV t)
    (h : ∀ w', Hid (w'.heap[g]? = some (.cells (cur.toList.take off ++ t.cells ++ cur.toList.drop (off + 5)).toArray 147 (0, 0))) → Hid (Keeps [g] w w') → wpList Try.prog ops Q rest (a.put o.dst undef) w') : wpList Try.prog ops Q (o :: rest) a w := by
  obtain ⟨s1, s2⟩ := setRow_keepsP (cs := (cur.toList.take off ++ t.cells ++ cur.toList.drop (off + 5)).toArray) hb
  exact wpList_noval hgd _ (exec_storePtAt x y hop g off hx cur hb hfit t hy) (h _ s1 s2)
end

/-- Pointers that are not zero. -/
def keepZ (x : Pt) : Bool := !zB x
theorem filterZ_none : ∀ {ms : List Pt}, (∀ m ∈ ms, zB m = false) → ms.filter keepZ = ms
  | [], _ => rfl
  | m :: r, h => by
    have h1 : keepZ m = true := by unfold keepZ; rw [h m (List.mem_cons_self ..)]; rfl
    rw [List.filter_cons, if_pos h1, filterZ_none (fun x hx => h x (List.mem_cons_of_mem _ hx))]
theorem filterZ_le (ms : List Pt) : (ms.filter keepZ).length ≤ ms.length := List.length_filter_le _ _

/-- What DeleteFunc holds behind j of them. -/
structure DelAtP (w wr : World) (g cap : Nat) (ms : List Pt) (i j : Nat) : Prop where
  cnt : i = ((ms.take j).filter keepZ).length
  blk : ∃ cur : Array Value, wr.heap[g]? = some (.cells cur 147 (0, 0)) ∧ cur.size = cap * 5 ∧ cur.toList.take (i * 5) = pcells ((ms.take j).filter keepZ) ∧ (cur.toList.drop (j * 5)).take ((ms.length - j) * 5) = pcells (ms.drop j)
  keep : Keeps [g] w wr
theorem DelAtP.range {w wr : World} {g cap : Nat} {ms : List Pt} {i j : Nat} (h : DelAtP w wr g cap ms i j) (hj : j < ms.length) : wr.rangeAt g (0 + j * 5) ms[j].cells := fun k u hu => by
  obtain ⟨cur, hb, hs, _, hd⟩ := h.blk
  have hk : k < 5 := by
    have := (List.getElem?_eq_some_iff.1 hu).1
    simpa [Pt.cells] using this
  have e := pcells_in (ms.drop j) 0 (by rw [List.length_drop]; omega) k hk
  have e2 : (ms.drop j)[0]'(by rw [List.length_drop]; omega) = ms[j] := by simp
  rw [e2, hu, Nat.zero_mul, Nat.zero_add, ← hd, List.getElem?_take, if_pos (by omega), List.getElem?_drop] at e
  rw [Nat.zero_add, cell_of_row _ _ _ _ _ _ hb, ← Array.getElem?_toList]
  exact e
theorem filterZ_snoc (ms : List Pt) (j : Nat) (hj : j < ms.length) : (ms.take (j + 1)).filter keepZ = (ms.take j).filter keepZ ++ if keepZ ms[j] then [ms[j]] else [] := by
  rw [List.take_succ_eq_append_getElem hj, List.filter_append]
  cases h : keepZ ms[j] <;> simp [h]
/-- One more is left out. -/
theorem DelAtP.skip {w wr w1 : World} {g cap : Nat} {ms : List Pt} {i j : Nat} (h : DelAtP w wr g cap ms i j) (hj : j < ms.length) (ht : zB ms[j] = true) (k : Keeps [] wr w1) : DelAtP w w1 g cap ms i (j + 1) := by
  obtain ⟨cur, hb, hs, hp, hd⟩ := h.blk
  have hf := filterZ_snoc ms j hj
  rw [if_neg (by simp [keepZ, ht]), List.append_nil] at hf
  refine ⟨by rw [hf]; exact h.cnt, ⟨cur, (k.block _ (lt_of_block hb) (by simp)).trans hb, hs, by rw [hf]; exact hp, ?_⟩, h.keep.trans (k.mono (by simp))⟩
  have := congrArg (List.drop 5) hd
  rw [List.drop_take, List.drop_drop, ← pcells_drop _ 1, List.drop_drop] at this
  rw [show (j + 1) * 5 = j * 5 + 5 by omega, show (ms.length - (j + 1)) * 5 = (ms.length - j) * 5 - 5 by omega]
  exact this
/-- One more is kept. -/
theorem DelAtP.put {w wr w1 : World} {g cap : Nat} {ms : List Pt} {i j : Nat} (h : DelAtP w wr g cap ms i j) (hij : i < j) (hj : j < ms.length) (ht : zB ms[j] = false) {cur : Array Value} (hb : wr.heap[g]? = some (.cells cur 147 (0, 0)))
    (hb1 : w1.heap[g]? = some (.cells (cur.toList.take (i * 5) ++ ms[j].cells ++ cur.toList.drop (i * 5 + 5)).toArray 147 (0, 0))) (hcap : ms.length ≤ cap) (k : Keeps [g] wr w1) : DelAtP w w1 g cap ms (i + 1) (j + 1) := by
  obtain ⟨cur', hb', hs, hp, hd⟩ := h.blk
  rw [hb] at hb'
  injection hb' with e
  injection e with e _ _
  subst e
  have hf := filterZ_snoc ms j hj
  rw [if_pos (by simp [keepZ, ht])] at hf
  have hl3 : cur.toList.length = cap * 5 := by simpa using hs
  have lt1 : (cur.toList.take (i * 5)).length = i * 5 := by rw [List.length_take]; omega
  have lt2 : ms[j].cells.length = 5 := rfl
  refine ⟨by rw [hf, List.length_append, ← h.cnt]; rfl, ⟨_, hb1, ?_, ?_, ?_⟩, h.keep.trans k⟩
  · simp only [List.size_toArray, List.length_append, List.length_take, List.length_drop, lt2, Array.length_toList]
    omega
  · rw [hf, pcells_append, ← hp]
    have e1 : (i + 1) * 5 = (cur.toList.take (i * 5) ++ ms[j].cells).length := by rw [List.length_append, lt1, lt2]; omega
    rw [e1]
    simp only [List.take_left]
    simp [pcells]
  · have := congrArg (List.drop 5) hd
    rw [List.drop_take, List.drop_drop, ← pcells_drop _ 1, List.drop_drop] at this
    rw [show (j + 1) * 5 = j * 5 + 5 by omega, show (ms.length - (j + 1)) * 5 = (ms.length - j) * 5 - 5 by omega]
    rw [← this]
    congr 1
    have e2 : j * 5 + 5 = (cur.toList.take (i * 5) ++ ms[j].cells).length + (j - i) * 5 := by rw [List.length_append, lt1, lt2]; omega
    simp only []
    rw [e2, List.drop_append, List.drop_drop]
    congr 1
    rw [List.length_append, lt1]; simp [lt2]; omega

def isZF : Value := .func (.func 197) #[] #[]
def DelPostP (w : World) (M : List Nat) (B : Nat) (v : Value) (ms : List Pt) (e : Ending) (w' : World) : Prop :=
  ∃ a c, e = .returned (.slice a (ms.filter keepZ).length c) ∧ OwnP w' B M (.slice a (ms.filter keepZ).length c) (ms.filter keepZ) ∧ Keeps v.ownBlock.toList w w'
end Go.Proofs.Ytoglcohdanpciaa


/- blocks: gone. -/
namespace Go.Proofs.Ytoglcohdanpciaa
open Go.RowKit Go.Shelf
set_option maxRecDepth 100000
set_option linter.unusedSimpArgs false

def goneS (has l : List Pt) (x : Pt) : List Pt := if (!zB x && !hasP has x && !hasP l x) = true then l ++ [x] else l
/-- What stood in one row and stands in another no more, each once. -/
def goneL (had has : List Pt) : List Pt := had.foldl (goneS has) []
theorem goneL_snoc (had has : List Pt) (k : Nat) (h : k < had.length) : goneL (had.take (k + 1)) has = goneS has (goneL (had.take k) has) had[k] := by
  unfold goneL
  rw [List.take_succ_eq_append_getElem h, List.foldl_append]
  rfl
theorem goneL_le (had has : List Pt) : (goneL had has).length ≤ had.length := by
  have : ∀ (xs l : List Pt), (xs.foldl (goneS has) l).length ≤ l.length + xs.length := by
    intro xs
    induction xs with
    | nil => intro l; simp
    | cons x xs ih =>
      intro l
      have := ih (goneS has l x)
      have h2 : (goneS has l x).length ≤ l.length + 1 := by unfold goneS; split <;> simp
      simp only [List.foldl_cons, List.length_cons]
      omega
  simpa [goneL] using this had []
theorem one_pts (w : World) (M : List Nat) (hM : ∀ b ∈ M, b < w.heap.size) (t : Pt) : PtsAt (w.alloc (.cells t.cells.toArray 147)) M (.slice (some ⟨w.heap.size, 0, none⟩) 1 1) [t] :=
  ⟨_, 1, rfl, by simp, by decide, by simp, fun ad had => ⟨w.heap.size, 0, (Option.some.inj had).symm, by simp, fun hm => by have := hM _ hm; omega, by
    have := range_new w t.cells 147
    simpa [pcells] using this⟩⟩

def GonePost (w : World) (M : List Nat) (l : List Pt) (e : Ending) (w' : World) : Prop :=
  ∃ a c, e = .returned (.slice a l.length c) ∧ OwnP w' w.heap.size M (.slice a l.length c) l ∧ Keeps [] w w'
end Go.Proofs.Ytoglcohdanpciaa


/- blocks: resize, point. -/
namespace Go.Proofs.Ytoglcohdanpciaa
open Go.RowKit Go.Shelf
set_option maxRecDepth 100000
set_option linter.unusedSimpArgs false

theorem heap_three2 {w : World} {p : Nat} {x y z : Value} {T : TypeId} (h : w.heap[p]? = some (.cells #[x, y, z] T (0, 0))) (u : Value) :
    (w.setCell ⟨p, 1, none⟩ u).heap[p]? = some (.cells #[x, u, z] T (0, 0)) ∧ (w.setCell ⟨p, 2, none⟩ u).heap[p]? = some (.cells #[x, y, u] T (0, 0)) := by
  have hlt := lt_of_block h
  have h' : w.heap[p] = .cells #[x, y, z] T (0, 0) := by simpa [Array.getElem?_eq_getElem hlt] using h
  constructor
  · show (w.heap.modify p _)[p]? = _
    rw [Array.getElem?_eq_getElem (by simpa using hlt), Array.getElem_modify_self, h']
    rfl
  · show (w.heap.modify p _)[p]? = _
    rw [Array.getElem?_eq_getElem (by simpa using hlt), Array.getElem_modify_self, h']
    rfl
theorem free_three {w : World} {p : Nat} {x y z : Value} {T : TypeId} (h : w.heap[p]? = some (.cells #[x, y, z] T (0, 0))) : w.frozen? ⟨p, 1, none⟩ = false ∧ w.frozen? ⟨p, 2, none⟩ = false := by
  constructor <;> simp [World.frozen?, h]
theorem fit_eq (L : List Pt) (n : Nat) : fitL L n = L.take (min n L.length) ++ List.replicate (n - min n L.length) pZ := by
  unfold fitL
  by_cases h : n ≤ L.length
  · rw [Nat.min_eq_left h, Nat.sub_eq_zero_of_le h, Nat.sub_self]
  · rw [Nat.min_eq_right (by omega), List.take_of_length_le (by omega), List.take_of_length_le (Nat.le_refl _)]
/-- A row of the call's own with one pointer written over. -/
theorem own_set {w : World} {B : Nat} {M : List Nat} {v : Value} {ps : List Pt} (h : OwnP w B M v ps) (k : Nat) (hk : k < ps.length) :
    ∃ g cap cur, v = .slice (some ⟨g, 0, none⟩) ps.length cap ∧ B ≤ g ∧ w.heap[g]? = some (.cells cur 147 (0, 0)) ∧ ps.length ≤ cap ∧ k * 5 + 5 ≤ cur.size ∧
      ∀ (x : Pt) (w' : World), w'.heap[g]? = some (.cells (cur.toList.take (k * 5) ++ x.cells ++ cur.toList.drop (k * 5 + 5)).toArray 147 (0, 0)) → OwnP w' B M v (ps.set k x) := by
  rcases h.row.2 with ⟨rfl, h0⟩ | ⟨g, cap, cur, rfl, hb, hg, hnc, hcm, hcs, ht⟩
  · omega
  · have hl : cur.toList.length = cap * 5 := by simpa using hcs
    have hfit : k * 5 + 5 ≤ cap * 5 := by have : k + 1 ≤ cap := by omega
                                          omega
    refine ⟨g, cap, cur, rfl, hb, hg, hnc, by omega, fun x w' hw => ⟨⟨by rw [pcells_length], .inr ⟨g, cap, _, by simp, hb, hw, by simpa using hnc, hcm, ?_, ?_⟩⟩, h.lt⟩⟩
    · have : x.cells.length = 5 := rfl
      simp only [List.size_toArray, List.length_append, List.length_take, List.length_drop, this]
      omega
    · have lx : x.cells.length = 5 := rfl
      have e1 : ps.set k x = ps.take k ++ [x] ++ ps.drop (k + 1) := by
        rw [List.set_eq_take_append_cons_drop, if_pos hk]
        simp
      rw [e1, pcells_append, pcells_append, pcells_take, pcells_drop, ← ht]
      simp only [List.length_append, List.length_take, List.length_drop, List.length_cons, List.length_nil]
      have lt1 : (cur.toList.take (k * 5)).length = k * 5 := by rw [List.length_take]; omega
      have e2 : pcells [x] = x.cells := by simp [pcells]
      have l3 : (cur.toList.take (k * 5) ++ x.cells).length = k * 5 + 5 := by rw [List.length_append, lt1, lx]
      have m0 : min k ps.length + (0 + 1) + (ps.length - (k + 1)) = ps.length := by omega
      rw [e2, List.take_take, List.take_append, m0, l3, List.drop_take, List.take_of_length_le (by rw [l3]; omega), Nat.min_eq_left (by omega)]
      congr 1
      rw [show (k + 1) * 5 = k * 5 + 5 by omega, show ps.length * 5 - (k * 5 + 5) = ps.length * 5 - (k * 5 + 5) from rfl]
end Go.Proofs.Ytoglcohdanpciaa


/- blocks: may. -/
namespace Go.Proofs.Ytoglcohdanpciaa
open Go.RowKit Go.Shelf
set_option maxRecDepth 100000
set_option linter.unusedSimpArgs false

theorem iDelta : (Try.prog.info? 149).map (fun i => (i.zero, i.size)) = some (some (dlV ⟨0, 0, 0, 0, pZ, pZ⟩), 14) := by kernel_rfl
theorem uDelta : Try.prog.underlying 149 = some (.struct (Try.prog.fieldsOf 149)) := by kernel_rfl
theorem sDelta : (Try.prog.info? 149).map (·.size) = some 14 := by kernel_rfl
theorem loadDl_run (W : World) (b off : Nat) (x : Dl) (hc : W.rangeAt b off x.cells) : (Instr.loadAt 149 (.pointer (some ⟨b, off, none⟩))).run Try.prog W = .ok (dlV x) W :=
  run_loadAt_mid W b off 149 x.cells _ hc uDelta rfl (by rw [sDelta]; rfl)
/-- The parts of a delta in memory. -/
structure DlAt (w : World) (b off : Nat) (x : Dl) : Prop where
  c0 : w.cell? ⟨b, off, none⟩ = some (.int .i64 x.d)
  c1 : w.cell? ⟨b, off + 1, none⟩ = some (.int .i64 x.i)
  c2 : w.cell? ⟨b, off + 2, none⟩ = some (.int .i64 x.b)
  c3 : w.cell? ⟨b, off + 3, none⟩ = some (.int .i64 x.s)
  t : w.rangeAt b (off + 4) x.t.cells
  o : w.rangeAt b (off + 9) x.o.cells
theorem dl_range {w : World} {b off : Nat} {x : Dl} (h : w.rangeAt b off x.cells) : DlAt w b off x :=
  ⟨h 0 _ rfl, h 1 _ rfl, h 2 _ rfl, h 3 _ rfl, fun j v hv => by
    have hj : j < 5 := by have := (List.getElem?_eq_some_iff.1 hv).1; simpa [Pt.cells] using this
    rw [Nat.add_assoc]
    refine h (4 + j) v ?_
    match j, hj, hv with
    | 0, _, hv => exact hv
    | 1, _, hv => exact hv
    | 2, _, hv => exact hv
    | 3, _, hv => exact hv
    | 4, _, hv => exact hv, fun j v hv => by
    have hj : j < 5 := by have := (List.getElem?_eq_some_iff.1 hv).1; simpa [Pt.cells] using this
    rw [Nat.add_assoc]
    refine h (9 + j) v ?_
    match j, hj, hv with
    | 0, _, hv => exact hv
    | 1, _, hv => exact hv
    | 2, _, hv => exact hv
    | 3, _, hv => exact hv
    | 4, _, hv => exact hv⟩
theorem DlAt.keep {w w' : World} {S : List Nat} {b off : Nat} {x : Dl} (h : DlAt w b off x) (k : Keeps S w w') (hs : b ∉ S) : DlAt w' b off x :=
  ⟨k.cell' h.c0 hs, k.cell' h.c1 hs, k.cell' h.c2 hs, k.cell' h.c3 hs, range_keep h.t k hs, range_keep h.o k hs⟩
theorem DlAt.kp {S : List Nat} {n₀ : Nat} {w w' : World} {b off : Nat} {x : Dl} (h : DlAt w b off x) (k : KpS S n₀ w w') (hb : b < n₀) (hs : b ∉ S) : DlAt w' b off x :=
  ⟨k.cell h.c0 hb hs, k.cell h.c1 hb hs, k.cell h.c2 hb hs, k.cell h.c3 hb hs, fun j v hv => k.cell (h.t j v hv) hb hs, fun j v hv => k.cell (h.o j v hv) hb hs⟩
def MayPost (w : World) (b : Bool) (e : Ending) (w' : World) : Prop := e = .returned (.bool b) ∧ Keeps [] w w'
end Go.Proofs.Ytoglcohdanpciaa


/- A drawn region in which one of the last operations breaks what the first ones read: a load may be taken first where whatever may come up before it keeps what it reads. -/
namespace Go.Proofs.Ytoglcohdanpciaa
open Go.RowKit Go.Shelf

section
variable {P : Program} {ops : Array Oper} {Q : Exit → Act → World → Prop} {md : Region.Mode} {S : World → Prop} {late : List Nat}

/-- Whatever order is picked: S holds behind every operation that is carried out, but those that are late. -/
def wpAnyT (P : Program) (md : Region.Mode) (ops : Array Oper) (Q : Exit → Act → World → Prop) (S : World → Prop) (late : List Nat) : Nat → Array Bool → Act → World → Prop
  | 0, listed, a, w => Region.ready md ops listed = [] ∧ Q .normal a w
  | fuel + 1, listed, a, w =>
    (Region.ready md ops listed = [] → Q .normal a w) ∧
    ∀ i ∈ Region.ready md ops listed, wpOp P ops Q i (fun a' w' => (late.contains i = true ∨ S w') ∧ wpAnyT P md ops Q S late fuel (listed.setIfInBounds i true) a' w') a w

theorem wpAny_of_late : ∀ (fuel : Nat) (listed : Array Bool) (a : Act) (w : World), wpAnyT P md ops Q S late fuel listed a w → wpAny P md ops Q fuel listed a w
  | 0, _, _, _, h => h
  | fuel + 1, _, _, _, h => ⟨h.1, fun i hi => wpOp_mono (fun a' w' h' => wpAny_of_late fuel _ a' w' h'.2) (h.2 i hi)⟩

/-- All that may come up without number i. -/
def spread (md : Region.Mode) (ops : Array Oper) (i : Nat) : Nat → Array Bool → Array Bool
  | 0, l => l
  | n + 1, l => spread md ops i n ((Region.ready md ops l).foldl (fun l j => if j == i then l else l.setIfInBounds j true) l)

def lateOk (md : Region.Mode) (ops : Array Oper) (listed : Array Bool) (i : Nat) (late : List Nat) (L : Array Bool) : Bool :=
  (L.getD i true == false) && ((Region.ready md ops L).all fun j => j == i) && ((List.range listed.size).all fun j => !listed.getD j false || L.getD j false) && (late.all fun j => L.getD j true == false)

theorem ready_le {l L : Array Bool} (hle : ∀ j, l.getD j false = true → L.getD j false = true) {j : Nat} (hj : j ∈ Region.ready md ops l) (hL : L.getD j true = false) : j ∈ Region.ready md ops L := by
  obtain ⟨_, o, ho, ha⟩ := mem_ready.1 hj
  exact mem_ready.2 ⟨hL, o, ho, fun e he hb => hle _ (ha e he hb)⟩

theorem getD_not {L : Array Bool} {j : Nat} (h : ¬ L.getD j true = false) (hj : j < L.size) : L.getD j false = true := by
  simp [hj] at h ⊢
  exact h

theorem wpAnyT_first {i : Nat} {oi : Oper} {v : Value} (hi : ops[i]? = some oi) (hsel : ∀ (j : Nat) (o : Oper) cs b, ops[j]? = some o → o.op ≠ .select cs b)
    (hQ : ∀ c a w, Q (.panic c) (a.put oi.dst v) w → Q (.panic c) a w) (L : Array Bool) (hL3 : ∀ j, j ∈ Region.ready md ops L → j = i) (hL4 : ∀ j, late.contains j = true → L.getD j true = false) :
    ∀ (fuel : Nat) (listed : Array Bool) (a : Act) (w : World), listed.size = L.size → (∀ j, listed.getD j false = true → L.getD j false = true) →
      (∀ j oj, ops[j]? = some oj → j ≠ i → listed.getD j true = false → (∀ e ∈ oj.after, Region.binds md e = true → e.on ≠ i) → oi.apart ops oj = true) →
      i ∈ Region.ready md ops listed → YieldsIf P ops S oi v a → S w →
      wpAnyT P md ops Q S late fuel (listed.setIfInBounds i true) (a.put oi.dst v) w → wpAnyT P md ops Q S late (fuel + 1) listed a w := by
  intro fuel
  induction fuel with
  | zero =>
    intro listed a w _ _ hfree hr hy hS H
    refine ⟨fun h => (by rw [h] at hr; cases hr), fun j hj => ?_⟩
    by_cases hji : j = i
    · subst hji; exact hy.wpOp hi hS ⟨Or.inr hS, H⟩
    · have := ready_mono hj hji
      rw [H.1] at this
      cases this
  | succ fuel ih =>
    intro listed a w hz hle hfree hr hy hS H
    refine ⟨fun h => (by rw [h] at hr; cases hr), fun j hj => ?_⟩
    by_cases hji : j = i
    · subst hji; exact hy.wpOp hi hS ⟨Or.inr hS, H⟩
    · have h1 := H.2 j (ready_mono hj hji)
      obtain ⟨hjun, oj, hoj, hall⟩ := mem_ready.1 hj
      have hnL : ¬ L.getD j true = false := fun h => hji (hL3 j (ready_le hle hj h))
      have hjs : j < L.size := by
        rw [← hz]
        rcases Nat.lt_or_ge j listed.size with h | h
        · exact h
        · simp [h] at hjun
      have hnl : ¬ late.contains j = true := fun h => hnL (hL4 j h)
      have hnot : ∀ e ∈ oj.after, Region.binds md e = true → e.on ≠ i := fun e he hb heq => by
        have h1 := hall e he hb
        have h0 := (mem_ready.1 hr).1
        rw [heq] at h1
        rcases Nat.lt_or_ge i listed.size with h' | h'
        · simp [h'] at h0 h1; rw [h0] at h1; cases h1
        · simp [Array.getElem?_eq_none h'] at h1
      have h2 := wpOp_putIf hoj (hfree j oj hoj hji hjun hnot) (fun cs b => hsel i oi cs b hi) (fun cs b => hsel j oj cs b hoj) hQ hy h1
      have hfree' : ∀ k ok, ops[k]? = some ok → k ≠ i → (listed.setIfInBounds j true).getD k true = false →
          (∀ e ∈ ok.after, Region.binds md e = true → e.on ≠ i) → oi.apart ops ok = true := fun k ok hk hki hun hno => by
        refine hfree k ok hk hki ?_ hno
        by_cases hjk : j = k
        · subst hjk; exact hjun
        · rw [getD_set_ne true hjk] at hun; exact hun
      have hle' : ∀ k, (listed.setIfInBounds j true).getD k false = true → L.getD k false = true := fun k hk => by
        by_cases hjk : j = k
        · subst hjk; exact getD_not hnL hjs
        · rw [getD_set_ne false hjk] at hk; exact hle k hk
      refine wpOp_mono (fun a' w' h3 => ?_) h2
      have hS' : S w' := h3.2.1.resolve_left hnl
      refine ⟨Or.inr hS', ih (listed.setIfInBounds j true) a' w' (by simpa using hz) hle' hfree' (ready_mono hr (Ne.symm hji)) h3.1 hS' ?_⟩
      rw [Array.setIfInBounds_comm _ _ hji]
      exact h3.2.2

theorem wpAnyT_take {i : Nat} {oi : Oper} {v : Value} {fuel : Nat} {listed : Array Bool} {a : Act} {w : World} (hi : ops[i]? = some oi)
    (hs : Region.noSelect ops = true) (hf : Region.free md ops listed i = true) (hr : (Region.ready md ops listed).contains i = true) (hl : lateOk md ops listed i late (spread md ops i ops.size listed) = true) (hz : listed.size = (spread md ops i ops.size listed).size)
    (hQ : ∀ c a w, Q (.panic c) (a.put oi.dst v) w → Q (.panic c) a w) (hy : YieldsIf P ops S oi v a) (hS : S w)
    (h : wpAnyT P md ops Q S late fuel (listed.setIfInBounds i true) (a.put oi.dst v) w) : wpAnyT P md ops Q S late (fuel + 1) listed a w := by
  simp only [lateOk, Bool.and_eq_true, List.all_eq_true, beq_iff_eq, List.mem_range] at hl
  obtain ⟨⟨⟨_, h3⟩, h1⟩, h4⟩ := hl
  refine wpAnyT_first hi (Region.noSelect_spec hs) hQ (spread md ops i ops.size listed) h3 (fun j hj => h4 j (by simpa using hj)) fuel listed a w hz (fun j hj => ?_) (Region.free_spec hi hf) (by simpa using hr) hy hS h
  have hjs : j < listed.size := by
    rcases Nat.lt_or_ge j listed.size with h | h
    · exact h
    · simp [h] at hj
  have := h1 j hjs
  simp only [Bool.or_eq_true, Bool.not_eq_true'] at this
  rcases this with h | h
  · rw [hj] at h; cases h
  · exact h

theorem wpAnyT_done {listed : Array Bool} {a : Act} {w : World} (hr : Region.ready md ops listed = []) (h : Q .normal a w) :
    ∀ fuel, wpAnyT P md ops Q S late fuel listed a w
  | 0 => ⟨hr, h⟩
  | _ + 1 => ⟨fun _ => h, by rw [hr]; simp⟩

theorem wpAnyT_all {rs : List Nat} {fuel : Nat} {listed : Array Bool} {a : Act} {w : World} (hr : Region.ready md ops listed = rs) (hne : rs ≠ [])
    (h : ∀ i ∈ rs, wpOp P ops Q i (fun a' w' => (late.contains i = true ∨ S w') ∧ wpAnyT P md ops Q S late fuel (listed.setIfInBounds i true) a' w') a w) : wpAnyT P md ops Q S late (fuel + 1) listed a w :=
  ⟨fun h0 => absurd (hr ▸ h0) hne, hr ▸ h⟩

theorem late_take {i : Nat} {oi : Oper} {v : Value} {fuel : Nat} {listed : Array Bool} {a : Act} {w : World} (hi : ops.toList[i]? = some oi)
    (hs : Region.noSelect ops = true) (hf : Region.free md ops listed i = true) (hr : (Region.ready md ops listed).contains i = true) (hl : lateOk md ops listed i late (spread md ops i ops.size listed) = true) (hz : listed.size = (spread md ops i ops.size listed).size)
    (hQ : ∀ c a w, Q (.panic c) (a.put oi.dst v) w → Q (.panic c) a w) (hg : oi.guard = none) (hy : ∀ w, S w → (execOp a.eval oi).run P w = .ok (.value v) w) (hS : S w)
    (h : wpAnyT P md ops Q S late fuel (listed.setIfInBounds i true) (a.put oi.dst v) w) : wpAnyT P md ops Q S late (fuel + 1) listed a w :=
  wpAnyT_take (by simpa using hi) hs hf hr hl hz hQ (Or.inl ⟨by simp [Region.wanted, hg], hy⟩) hS h
theorem late_takeW {i : Nat} {oi : Oper} {v : Value} {fuel : Nat} {listed : Array Bool} {a : Act} {w : World} (hi : ops.toList[i]? = some oi)
    (hs : Region.noSelect ops = true) (hf : Region.free md ops listed i = true) (hr : (Region.ready md ops listed).contains i = true) (hl : lateOk md ops listed i late (spread md ops i ops.size listed) = true) (hz : listed.size = (spread md ops i ops.size listed).size)
    (hQ : ∀ c a w, Q (.panic c) (a.put oi.dst v) w → Q (.panic c) a w) (hw : Region.wanted oi (yielded ops a.tmps) = true) (hy : ∀ w, S w → (execOp a.eval oi).run P w = .ok (.value v) w) (hS : S w)
    (h : wpAnyT P md ops Q S late fuel (listed.setIfInBounds i true) (a.put oi.dst v) w) : wpAnyT P md ops Q S late (fuel + 1) listed a w :=
  wpAnyT_take (by simpa using hi) hs hf hr hl hz hQ (Or.inl ⟨hw, hy⟩) hS h
theorem late_skip {i : Nat} {oi : Oper} {fuel : Nat} {listed : Array Bool} {a : Act} {w : World} (hi : ops.toList[i]? = some oi)
    (hs : Region.noSelect ops = true) (hf : Region.free md ops listed i = true) (hr : (Region.ready md ops listed).contains i = true) (hl : lateOk md ops listed i late (spread md ops i ops.size listed) = true) (hz : listed.size = (spread md ops i ops.size listed).size)
    (hQ : ∀ c a w, Q (.panic c) (a.put oi.dst undef) w → Q (.panic c) a w) (hw : Region.wanted oi (yielded ops a.tmps) = false) (hS : S w)
    (h : wpAnyT P md ops Q S late fuel (listed.setIfInBounds i true) (a.put oi.dst undef) w) : wpAnyT P md ops Q S late (fuel + 1) listed a w :=
  wpAnyT_take (by simpa using hi) hs hf hr hl hz hQ (Or.inr ⟨hw, rfl⟩) hS h
theorem late_do {i : Nat} {o : Oper} {fuel : Nat} {listed : Array Bool} {a : Act} {w : World} (hr : Region.ready md ops listed = [i]) (ho' : ops.toList[i]? = some o) (hg : o.guard = none)
    (h : o.wp P a w (fun a' w' => (late.contains i = true ∨ S w') ∧ wpAnyT P md ops Q S late fuel (listed.setIfInBounds i true) a' w') Q) : wpAnyT P md ops Q S late (fuel + 1) listed a w := by
  have ho : ops[i]? = some o := by simpa using ho'
  have hw : Region.wanted o (yielded ops a.tmps) = true := by simp [Region.wanted, hg]
  refine wpAnyT_all hr (by simp) fun j hj => ?_
  obtain rfl : j = i := by simpa using hj
  unfold wpOp
  simp only [ho, hw, if_true]
  exact Or.inl h
theorem late_doW {i : Nat} {o : Oper} {fuel : Nat} {listed : Array Bool} {a : Act} {w : World} (hr : Region.ready md ops listed = [i]) (ho' : ops.toList[i]? = some o) (hw : Region.wanted o (yielded ops a.tmps) = true)
    (h : o.wp P a w (fun a' w' => (late.contains i = true ∨ S w') ∧ wpAnyT P md ops Q S late fuel (listed.setIfInBounds i true) a' w') Q) : wpAnyT P md ops Q S late (fuel + 1) listed a w := by
  have ho : ops[i]? = some o := by simpa using ho'
  refine wpAnyT_all hr (by simp) fun j hj => ?_
  obtain rfl : j = i := by simpa using hj
  unfold wpOp
  simp only [ho, hw, if_true]
  exact Or.inl h
end
end Go.Proofs.Ytoglcohdanpciaa


/- blocks: Apply. -/
namespace Go.Proofs.Ytoglcohdanpciaa
open Go.RowKit Go.Shelf
set_option maxRecDepth 100000
set_option linter.unusedSimpArgs false

def goneD (s : Bk) (x : Dl) : List Pt := if mayD s x = true then goneL s.L (doD s x).L else []
end Go.Proofs.Ytoglcohdanpciaa


/- blocks: New, Clone; the laws' own Ptr, Ptrs, in; deltas are built. -/
namespace Go.Proofs.Ytoglcohdanpciaa
open Go.RowKit Go.Shelf
set_option maxRecDepth 100000
set_option linter.unusedSimpArgs false

def mkP (c n a k : Int) : Pt := ⟨c, 0, n, a, k⟩
theorem buildStripe2 (c n : Int) (w : World) : (Instr.build 30 #[(0, .int .i64 c), (2, .int .i64 n)]).run Try.prog w = .ok (.agg #[.int .i64 c, .int .i64 0, .int .i64 n]) w := by kernel_rfl
theorem buildPtr3 (c l n a k : Int) (w : World) : (Instr.build 147 #[(0, .agg #[.int .i64 c, .int .i64 l, .int .i64 n]), (1, .int .i64 a), (2, .int .i64 k)]).run Try.prog w = .ok (.agg #[.int .i64 c, .int .i64 l, .int .i64 n, .int .i64 a, .int .i64 k]) w := by kernel_rfl
theorem buildPut (d i b s : Int) (p : Pt) (w : World) : (Instr.build 149 #[(0, .int .i64 d), (1, .int .i64 i), (2, .int .i64 b), (3, .int .i64 s), (4, ptV p)]).run Try.prog w = .ok (dlV ⟨d, i, b, s, p, pZ⟩) w := by kernel_rfl
theorem buildCut (d i s : Int) (w : World) : (Instr.build 149 #[(0, .int .i64 d), (1, .int .i64 i), (3, .int .i64 s)]).run Try.prog w = .ok (dlV ⟨d, i, 0, s, pZ, pZ⟩) w := by kernel_rfl
theorem buildMove (d i b : Int) (p o : Pt) (w : World) : (Instr.build 149 #[(0, .int .i64 d), (1, .int .i64 i), (2, .int .i64 b), (5, ptV o), (4, ptV p)]).run Try.prog w = .ok (dlV ⟨d, i, b, 0, p, o⟩) w := by kernel_rfl
theorem exec_buildPut {ρ : Operand → Value} {o : Oper} {w : World} (x0 x1 x2 x3 x4 : Operand) (d i b s : Int) (p : Pt) (ho : o.op = .build 149 #[(0, x0), (1, x1), (2, x2), (3, x3), (4, x4)]) (h0 : ρ x0 = .int .i64 d) (h1 : ρ x1 = .int .i64 i) (h2 : ρ x2 = .int .i64 b) (h3 : ρ x3 = .int .i64 s) (h4 : ρ x4 = ptV p) :
    (execOp ρ o).run Try.prog w = .ok (.value (dlV ⟨d, i, b, s, p, pZ⟩)) w := by
  simp only [execOp, ho, List.map_toArray, List.map_cons, List.map_nil, h0, h1, h2, h3, h4, Sem.run_bind, buildPut, Result.andThen_ok, Sem.run_pure]
theorem exec_buildCut {ρ : Operand → Value} {o : Oper} {w : World} (x0 x1 x3 : Operand) (d i s : Int) (ho : o.op = .build 149 #[(0, x0), (1, x1), (3, x3)]) (h0 : ρ x0 = .int .i64 d) (h1 : ρ x1 = .int .i64 i) (h3 : ρ x3 = .int .i64 s) :
    (execOp ρ o).run Try.prog w = .ok (.value (dlV ⟨d, i, 0, s, pZ, pZ⟩)) w := by
  simp only [execOp, ho, List.map_toArray, List.map_cons, List.map_nil, h0, h1, h3, Sem.run_bind, buildCut, Result.andThen_ok, Sem.run_pure]
theorem exec_buildMove {ρ : Operand → Value} {o : Oper} {w : World} (x0 x1 x2 x5 x4 : Operand) (d i b : Int) (p q : Pt) (ho : o.op = .build 149 #[(0, x0), (1, x1), (2, x2), (5, x5), (4, x4)]) (h0 : ρ x0 = .int .i64 d) (h1 : ρ x1 = .int .i64 i) (h2 : ρ x2 = .int .i64 b) (h5 : ρ x5 = ptV q) (h4 : ρ x4 = ptV p) :
    (execOp ρ o).run Try.prog w = .ok (.value (dlV ⟨d, i, b, 0, p, q⟩)) w := by
  simp only [execOp, ho, List.map_toArray, List.map_cons, List.map_nil, h0, h1, h2, h5, h4, Sem.run_bind, buildMove, Result.andThen_ok, Sem.run_pure]
end Go.Proofs.Ytoglcohdanpciaa


/- blocks: the laws' own comparison of pointers, and whether one is among some. -/
namespace Go.Proofs.Ytoglcohdanpciaa
open Go.RowKit Go.Shelf
set_option maxRecDepth 100000
set_option linter.unusedSimpArgs false

def eqL (xs ys : List Pt) : Bool := decide (xs = ys)
theorem list_eq_at {xs ys : List Pt} (h : xs.length = ys.length) (hj : ∀ j (h1 : j < xs.length) (h2 : j < ys.length), xs[j] = ys[j]) : xs = ys := List.ext_getElem h hj
end Go.Proofs.Ytoglcohdanpciaa


/- blocks: the laws' awake. -/
namespace Go.Proofs.Ytoglcohdanpciaa
open Go.RowKit Go.Shelf
set_option maxRecDepth 100000
set_option linter.unusedSimpArgs false

def awP : Pt := mkP 1 5 0 10
def awD : Dl := ⟨1, 2, 0, 10, awP, pZ⟩
theorem aw1 : mayD bk0 awD = true := by decide
theorem aw2 : stepD bk0 awD = ⟨10, [awP]⟩ := by unfold stepD; rw [if_pos aw1]; rfl
end Go.Proofs.Ytoglcohdanpciaa


/- How arguments are read: a row of bytes. (For every layer.) -/
namespace Go.Proofs.Ytoglcohdanpciaa
open Go.ChangeShapes Go.WideShapes Go.ChangeAt Go.RowKit

section
variable {H : Type} {enc : TypeId × Value → H}

theorem bytes_u8 : Try.prog.bytesOf 5 = 1 := by kernel_rfl
theorem cells_u8 : Try.prog.cellsOf 5 = 1 := by kernel_rfl
theorem cells_row : Try.prog.cellsOf 34 = 1 := by kernel_rfl
theorem reach_is : reachBytes = 140737488351232 := by decide

/-- A row of bytes that came in. -/
theorem row_of_trod {W : World} {fuel : Nat} {cs : List Value} {x : DataW H × List MemPlace} (h : DataW.trod enc Try.prog W 0 (fun _ => true) true fuel 34 cs = some x)
    (hs : ∀ n ∈ x.1.weights Try.prog 34, n ≤ reachBytes) : ∃ v zs, cs = [v] ∧ RowAt W v zs ∧ zs.length ≤ 140737488351232 := by
  rcases open_ints Try.underlying34 Try.underlying5 cells_u8 h with ⟨rfl, _⟩ | ⟨a, len, cap, zs, rfl, _, hl, hm, hz, rfl, hcell, hwz⟩
  · exact ⟨_, [], rfl, RowAt.nil W, by simp⟩
  · simp only [if_true] at hz
    have hlen : (zs.take len).length = len := by rw [List.length_take]; omega
    refine ⟨_, zs.take len, rfl, ⟨some a, cap, by rw [hlen], by rw [hlen]; exact hl, hm, by simp, ?_, ?_⟩, ?_⟩
    · intro z hzm
      exact bounds_u8 (hwz z (List.mem_of_mem_take hzm))
    · intro ad had j u hu
      obtain rfl := Option.some.inj had
      have hj : j < len := by
        have := (List.getElem?_eq_some_iff.1 hu).1
        simp at this; omega
      rw [hcell j (by omega), ← hu]
      rw [List.getElem?_map, List.getElem?_take, if_pos hj, List.getElem?_eq_getElem (by omega), List.getD_eq_getElem?_getD, List.getElem?_eq_getElem (by omega)]
      rfl
    · have := hs ((lits .u8 (zs.take len) : List (DataW H)).length + (lits .u8 (zs.drop len) : List (DataW H)).length) (by
        simp only [DataW.weights, Try.underlying34, bytes_u8]
        simp)
      rw [reach_is] at this
      simp only [lits, List.length_map] at this
      omega

/-- Out of something for each place: one list. -/
theorem list_of {α : Type} {P : Nat → α → Prop} : ∀ (n : Nat), (∀ i, i < n → ∃ d, P i d) → ∃ ds : List α, ds.length = n ∧ ∀ i (h : i < ds.length), P i ds[i]
  | 0, _ => ⟨[], rfl, fun i h => by simp at h⟩
  | n + 1, h => by
    obtain ⟨ds, hl, hd⟩ := list_of n (fun i hi => h i (by omega))
    obtain ⟨d, hp⟩ := h n (by omega)
    refine ⟨ds ++ [d], by simp [hl], fun i hi => ?_⟩
    rw [List.getElem_append]
    split
    · rename_i hlt
      exact hd i hlt
    · have : i = n := by simp at hi; omega
      subst this
      simpa using hp

theorem i64_of {z : Int} (h : (Lit.int .i64 z).wf = true) : i64 z := bounds_i64 h

theorem mem_weightsAll {P : Program} {e : TypeId} {d : DataW H} {k : Nat} : ∀ {l : List (DataW H)}, d ∈ l → k ∈ d.weights P e → k ∈ DataW.weightsAll P e l
  | [], h, _ => by cases h
  | y :: l, h, hk => by
    simp only [DataW.weightsAll, List.mem_append]
    rcases List.mem_cons.1 h with rfl | h
    · exact Or.inl hk
    · exact Or.inr (mem_weightsAll h hk)

end

theorem each_le {H : Type} {ts : List TypeId} {ds : List (DataW H)} (h : (DataW.weightsEach Try.prog ts ds).all (· ≤ reachBytes) = true) {j : Nat} {t : TypeId} {d : DataW H} (ht : ts[j]? = some t) (hd : ds[j]? = some d) :
    ∀ n ∈ d.weights Try.prog t, n ≤ reachBytes := by
  intro n hn
  have := List.all_eq_true.1 h _ (DataW.weights_mem_each ht hd n hn)
  simpa using this
end Go.Proofs.Ytoglcohdanpciaa


/- blocks: how the laws' arguments are read: deltas, pointers. -/
namespace Go.Proofs.Ytoglcohdanpciaa
open Go.Deep Go.ChangeShapes Go.WideShapes Go.ChangeAt Go.RowKit Go.Shelf
set_option maxRecDepth 100000
set_option linter.unusedSimpArgs false

/-- Deltas that came in. -/
def DlsAt (w : World) (v : Value) (ds : List Dl) : Prop :=
  ∃ (a : Option Addr) (cap : Nat), v = .slice a ds.length cap ∧ ds.length ≤ cap ∧ cap ≤ maxLen ∧ (a = none → cap = 0) ∧
    (ds ≠ [] → ∃ g off, a = some ⟨g, off, none⟩ ∧ g < w.heap.size ∧ ∀ i (h : i < ds.length), w.rangeAt g (off + i * 14) ds[i].cells)
theorem DlsAt.keep {w w' : World} {v : Value} {ds : List Dl} (h : DlsAt w v ds) (k : Keeps [] w w') : DlsAt w' v ds := by
  obtain ⟨a, cap, e, h1, h2, h0, h3⟩ := h
  exact ⟨a, cap, e, h1, h2, h0, fun hne => by
    obtain ⟨g, off, e2, hl, h5⟩ := h3 hne
    exact ⟨g, off, e2, Nat.lt_of_lt_of_le hl k.size, fun i hi => range_keep (h5 i hi) k (by simp)⟩⟩
theorem DlsAt.shape {w : World} {v : Value} {ds : List Dl} (h : DlsAt w v ds) : ∃ a c, v = .slice a ds.length c := by
  obtain ⟨a, cap, rfl, _⟩ := h
  exact ⟨a, cap, rfl⟩
theorem DlsAt.at {w : World} {a : Option Addr} {n cap : Nat} {ds : List Dl} (h : DlsAt w (.slice a n cap) ds) (i : Nat) (hi : i < ds.length) : ∃ g off, a = some ⟨g, off, none⟩ ∧ g < w.heap.size ∧ w.rangeAt g (off + i * 14) ds[i].cells := by
  obtain ⟨a', cap', hv, h1, h2, h0, h4⟩ := h
  injection hv with e1 e2 e3
  subst e1; subst e2; subst e3
  obtain ⟨g, off, rfl, hg, hc⟩ := h4 (by intro e; rw [e] at hi; simp at hi)
  exact ⟨g, off, rfl, hg, hc i hi⟩
/-- Pointers that came in. -/
def PinAt (w : World) (v : Value) (ps : List Pt) : Prop :=
  ∃ (a : Option Addr) (cap : Nat), v = .slice a ps.length cap ∧ ps.length ≤ cap ∧ cap ≤ maxLen ∧ (a = none → cap = 0) ∧
    (ps ≠ [] → ∃ g off, a = some ⟨g, off, none⟩ ∧ g < w.heap.size ∧ ∀ i (h : i < ps.length), w.rangeAt g (off + i * 5) ps[i].cells)
theorem PinAt.keep {w w' : World} {v : Value} {ds : List Pt} (h : PinAt w v ds) (k : Keeps [] w w') : PinAt w' v ds := by
  obtain ⟨a, cap, e, h1, h2, h0, h3⟩ := h
  exact ⟨a, cap, e, h1, h2, h0, fun hne => by
    obtain ⟨g, off, e2, hl, h5⟩ := h3 hne
    exact ⟨g, off, e2, Nat.lt_of_lt_of_le hl k.size, fun i hi => range_keep (h5 i hi) k (by simp)⟩⟩
theorem PinAt.shape {w : World} {v : Value} {ds : List Pt} (h : PinAt w v ds) : ∃ a c, v = .slice a ds.length c := by
  obtain ⟨a, cap, rfl, _⟩ := h
  exact ⟨a, cap, rfl⟩
theorem PinAt.at {w : World} {a : Option Addr} {n cap : Nat} {ds : List Pt} (h : PinAt w (.slice a n cap) ds) (i : Nat) (hi : i < ds.length) : ∃ g off, a = some ⟨g, off, none⟩ ∧ g < w.heap.size ∧ w.rangeAt g (off + i * 5) ds[i].cells := by
  obtain ⟨a', cap', hv, h1, h2, h0, h4⟩ := h
  injection hv with e1 e2 e3
  subst e1; subst e2; subst e3
  obtain ⟨g, off, rfl, hg, hc⟩ := h4 (by intro e; rw [e] at hi; simp at hi)
  exact ⟨g, off, rfl, hg, hc i hi⟩

section
variable {H : Type} {enc : TypeId × Value → H}
theorem cellsDl : Try.prog.cellsOf 149 = 14 := by kernel_rfl
theorem cellsPt : Try.prog.cellsOf 147 = 5 := by kernel_rfl
theorem cellsSt : Try.prog.cellsOf 30 = 3 := by kernel_rfl
theorem cellsI11 : Try.prog.cellsOf 3 = 1 := by kernel_rfl
theorem pt_of_trod {W : World} {fuel : Nat} {c0 c1 c2 c3 c4 : Value} {x : DataW H × List MemPlace} (h : DataW.trod enc Try.prog W 0 (fun _ => true) true fuel 147 [c0, c1, c2, c3, c4] = some x) : ∃ p : Pt, [c0, c1, c2, c3, c4] = p.cells := by
  obtain ⟨ys, n, _, hx, _, hyl, hf⟩ := DataW.trod_struct Try.underlying147 h
  have t0 : DataW.trod enc Try.prog W 0 (fun _ => true) true n 30 (([c0, c1, c2, c3, c4].drop 0).take (Try.prog.cellsOf 30)) = ys[0]? := hf 0 _ rfl
  have t1 : DataW.trod enc Try.prog W 0 (fun _ => true) true n 3 (([c0, c1, c2, c3, c4].drop 3).take (Try.prog.cellsOf 3)) = ys[1]? := hf 1 _ rfl
  have t2 : DataW.trod enc Try.prog W 0 (fun _ => true) true n 3 (([c0, c1, c2, c3, c4].drop 4).take (Try.prog.cellsOf 3)) = ys[2]? := hf 2 _ rfl
  simp only [cellsSt, cellsI11, List.drop_zero, List.drop_succ_cons, List.take_succ_cons, List.take_zero] at t0 t1 t2
  match ys, hyl with
  | [y0, y1, y2], _ =>
    simp only [List.getElem?_cons_zero, List.getElem?_cons_succ] at t0 t1 t2
    obtain ⟨zs, n2, _, _, _, hzl, hg⟩ := DataW.trod_struct Try.underlying30 t0
    have s0 : DataW.trod enc Try.prog W 0 (fun _ => true) true n2 3 (([c0, c1, c2].drop 0).take (Try.prog.cellsOf 3)) = zs[0]? := hg 0 _ rfl
    have s1 : DataW.trod enc Try.prog W 0 (fun _ => true) true n2 3 (([c0, c1, c2].drop 1).take (Try.prog.cellsOf 3)) = zs[1]? := hg 1 _ rfl
    have s2 : DataW.trod enc Try.prog W 0 (fun _ => true) true n2 3 (([c0, c1, c2].drop 2).take (Try.prog.cellsOf 3)) = zs[2]? := hg 2 _ rfl
    simp only [cellsI11, List.drop_zero, List.drop_succ_cons, List.take_succ_cons, List.take_zero] at s0 s1 s2
    match zs, hzl with
    | [x0, x1, x2], _ =>
      simp only [List.getElem?_cons_zero, List.getElem?_cons_succ] at s0 s1 s2
      obtain ⟨z0, e0, _, w0⟩ := DataW.trod_int Try.underlying3 s0
      obtain ⟨z1, e1, _, w1⟩ := DataW.trod_int Try.underlying3 s1
      obtain ⟨z2, e2, _, w2⟩ := DataW.trod_int Try.underlying3 s2
      obtain ⟨z3, e3, _, w3⟩ := DataW.trod_int Try.underlying3 t1
      obtain ⟨z4, e4, _, w4⟩ := DataW.trod_int Try.underlying3 t2
      injection e0 with e0 _
      injection e1 with e1 _
      injection e2 with e2 _
      injection e3 with e3 _
      injection e4 with e4 _
      subst e0; subst e1; subst e2; subst e3; subst e4
      exact ⟨⟨z0, z1, z2, z3, z4⟩, rfl⟩
theorem cells_range {W : World} {g off n : Nat} {cs : List Value} (h : W.cells? 0 ⟨g, off, none⟩ n = some cs) : cs.length = n ∧ W.rangeAt g off cs := by
  obtain ⟨_, hl, hat⟩ := World.cells?_some h
  refine ⟨hl, fun j u hu => ?_⟩
  have hj := (List.getElem?_eq_some_iff.1 hu).1
  have := hat j (by omega)
  rw [Addr.add_lit] at this
  rw [this]; exact hu
theorem dl_of_trod {W : World} {fuel : Nat} {cs : List Value} {x : DataW H × List MemPlace} (hl : cs.length = 14) (h : DataW.trod enc Try.prog W 0 (fun _ => true) true fuel 149 cs = some x) : ∃ d : Dl, cs = d.cells := by
  obtain ⟨ys, n, _, hx, _, hyl, hf⟩ := DataW.trod_struct Try.underlying149 h
  match cs, hl with
  | [c0, c1, c2, c3, c4, c5, c6, c7, c8, c9, c10, c11, c12, c13], _ =>
    have t0 : DataW.trod enc Try.prog W 0 (fun _ => true) true n 3 (([c0, c1, c2, c3, c4, c5, c6, c7, c8, c9, c10, c11, c12, c13].drop 0).take (Try.prog.cellsOf 3)) = ys[0]? := hf 0 _ rfl
    have t1 : DataW.trod enc Try.prog W 0 (fun _ => true) true n 3 (([c0, c1, c2, c3, c4, c5, c6, c7, c8, c9, c10, c11, c12, c13].drop 1).take (Try.prog.cellsOf 3)) = ys[1]? := hf 1 _ rfl
    have t2 : DataW.trod enc Try.prog W 0 (fun _ => true) true n 3 (([c0, c1, c2, c3, c4, c5, c6, c7, c8, c9, c10, c11, c12, c13].drop 2).take (Try.prog.cellsOf 3)) = ys[2]? := hf 2 _ rfl
    have t3 : DataW.trod enc Try.prog W 0 (fun _ => true) true n 3 (([c0, c1, c2, c3, c4, c5, c6, c7, c8, c9, c10, c11, c12, c13].drop 3).take (Try.prog.cellsOf 3)) = ys[3]? := hf 3 _ rfl
    have t4 : DataW.trod enc Try.prog W 0 (fun _ => true) true n 147 (([c0, c1, c2, c3, c4, c5, c6, c7, c8, c9, c10, c11, c12, c13].drop 4).take (Try.prog.cellsOf 147)) = ys[4]? := hf 4 _ rfl
    have t5 : DataW.trod enc Try.prog W 0 (fun _ => true) true n 147 (([c0, c1, c2, c3, c4, c5, c6, c7, c8, c9, c10, c11, c12, c13].drop 9).take (Try.prog.cellsOf 147)) = ys[5]? := hf 5 _ rfl
    simp only [cellsPt, cellsI11, List.drop_zero, List.drop_succ_cons, List.take_succ_cons, List.take_zero] at t0 t1 t2 t3 t4 t5
    match ys, hyl with
    | [y0, y1, y2, y3, y4, y5], _ =>
      simp only [List.getElem?_cons_zero, List.getElem?_cons_succ] at t0 t1 t2 t3 t4 t5
      obtain ⟨z0, e0, _, w0⟩ := DataW.trod_int Try.underlying3 t0
      obtain ⟨z1, e1, _, w1⟩ := DataW.trod_int Try.underlying3 t1
      obtain ⟨z2, e2, _, w2⟩ := DataW.trod_int Try.underlying3 t2
      obtain ⟨z3, e3, _, w3⟩ := DataW.trod_int Try.underlying3 t3
      obtain ⟨p, e4⟩ := pt_of_trod t4
      obtain ⟨q, e5⟩ := pt_of_trod t5
      injection e0 with e0 _
      injection e1 with e1 _
      injection e2 with e2 _
      injection e3 with e3 _
      subst e0; subst e1; subst e2; subst e3
      refine ⟨⟨z0, z1, z2, z3, p, q⟩, ?_⟩
      simp only [Dl.cells, ← e4, ← e5]
      rfl
theorem deltas_of_trod {W : World} {fuel : Nat} {cs : List Value} {x : DataW H × List MemPlace} (h : DataW.trod enc Try.prog W 0 (fun _ => true) true fuel 80 cs = some x) : ∃ v ds, cs = [v] ∧ DlsAt W v ds := by
  rcases Go.Deep.open_slice Try.underlying80 h with ⟨rfl, _⟩ | ⟨a, len, cap, m, n, D, Pl, rfl, _, hl, hm, hmm, rfl, hi⟩
  · exact ⟨_, [], rfl, none, 0, rfl, by simp, by simp, fun _ => rfl, fun h => absurd rfl h⟩
  · simp only [if_true] at hmm
    subst hmm
    by_cases h0 : len = 0
    · subst h0
      exact ⟨_, [], rfl, some a, m, rfl, by simp, hm, by simp, fun h => absurd rfl h⟩
    · obtain ⟨g, off, sp⟩ := a
      have hsp : sp = none := by
        obtain ⟨cs0, hc, _⟩ := hi 0 (by omega)
        rw [cellsDl] at hc
        obtain ⟨_, hl4, hat⟩ := World.cells?_some hc
        have := hat 0 (by omega)
        rw [List.getElem?_eq_getElem (by omega)] at this
        have hs := World.cell?_spot this
        simpa [Addr.add] using hs
      subst hsp
      obtain ⟨ds, hdl, hda⟩ := list_of (P := fun i (d : Dl) => W.rangeAt g (off + i * 14) d.cells) len (fun i hil => by
        obtain ⟨cs', hc, ht⟩ := hi i (by omega)
        rw [cellsDl, Addr.add_lit] at hc
        obtain ⟨hl14, hr⟩ := cells_range hc
        obtain ⟨d, rfl⟩ := dl_of_trod hl14 ht
        exact ⟨d, hr⟩)
      refine ⟨_, ds, rfl, some ⟨g, off, none⟩, m, by rw [hdl], by omega, hm, by simp, fun _ => ⟨g, off, rfl, ?_, hda⟩⟩
      have := hda 0 (by omega) 0 _ rfl
      exact World.block_lt_of_cell? _ _ this
end
end Go.Proofs.Ytoglcohdanpciaa
