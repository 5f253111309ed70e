/- BkL, BkM, BkO. -/
import Derived.Test.YtcfmonlgpccndaaDoorPkG24
import Derived.Test.YtcfmonlgpccndaaDoorPkG15
import Derived.Deep.Strs
import Derived.ChangeSame
/- blocks: the laws' own comparison of pointers, and whether one is among some. -/
namespace Go.Proofs.YtcfmonlgpccndaaDoor
open Go.RowKit Go.Shelf
set_option maxRecDepth 100000
set_option linter.unusedSimpArgs false

def eqL (xs ys : List Pt) : Bool := decide (xs = ys)
theorem list_eq_at {xs ys : List Pt} (h : xs.length = ys.length) (hj : ∀ j (h1 : j < xs.length) (h2 : j < ys.length), xs[j] = ys[j]) : xs = ys := List.ext_getElem h hj
end Go.Proofs.YtcfmonlgpccndaaDoor


/- blocks: the laws' awake. -/
namespace Go.Proofs.YtcfmonlgpccndaaDoor
open Go.RowKit Go.Shelf
set_option maxRecDepth 100000
set_option linter.unusedSimpArgs false

/-- Apply on a map that was made since w. -/
theorem apply_new {w w1 : World} {M : List Nat} {q : Nat} {s : Bk} (k : Keeps [] w w1) (h : BkAt w1 M q s) (hM : ∀ b ∈ M, b < w1.heap.size) (hq : w.heap.size ≤ q) (x : Dl) :
    Calls Tryd.prog 19 #[.pointer (some ⟨q, 0, none⟩), dlV x] w1 fun e w' => ∃ a c, e = .returned (.tuple #[.slice a (goneD s x).length c, .bool (mayD s x)]) ∧ OwnP w' w1.heap.size M (.slice a (goneD s x).length c) (goneD s x) ∧ BkAt w' M q (stepD s x) ∧ Keeps [] w w' ∧ w1.heap.size ≤ w'.heap.size ∧ Keeps [q] w1 w' :=
  (zApply_any h hM x).mono fun e w' ⟨a, c, he, ho, hb, hk⟩ => ⟨a, c, he, ho, hb, k.trans' hk (fun i hi hm => by simp at hm; omega), hk.size, hk⟩

def awP : Pt := mkP 1 5 0 10
def awD : Dl := ⟨1, 2, 0, 10, awP, pZ⟩
theorem aw1 : mayD bk0 awD = true := by decide
theorem aw2 : stepD bk0 awD = ⟨10, [awP]⟩ := by unfold stepD; rw [if_pos aw1]; rfl
end Go.Proofs.YtcfmonlgpccndaaDoor


/- blocks: how the laws' arguments are read: deltas, pointers. -/
namespace Go.Proofs.YtcfmonlgpccndaaDoor
open Go.Deep Go.ChangeShapes Go.WideShapes Go.ChangeAt Go.RowKit Go.Shelf
set_option maxRecDepth 100000
set_option linter.unusedSimpArgs false

/-- Deltas that came in. -/
def DlsAt (w : World) (v : Value) (ds : List Dl) : Prop :=
  ∃ (a : Option Addr) (cap : Nat), v = .slice a ds.length cap ∧ ds.length ≤ cap ∧ cap ≤ maxLen ∧ (a = none → cap = 0) ∧
    (ds ≠ [] → ∃ g off, a = some ⟨g, off, none⟩ ∧ g < w.heap.size ∧ ∀ i (h : i < ds.length), w.rangeAt g (off + i * 14) ds[i].cells)
theorem DlsAt.keep {w w' : World} {v : Value} {ds : List Dl} (h : DlsAt w v ds) (k : Keeps [] w w') : DlsAt w' v ds := by
  obtain ⟨a, cap, e, h1, h2, h0, h3⟩ := h
  exact ⟨a, cap, e, h1, h2, h0, fun hne => by
    obtain ⟨g, off, e2, hl, h5⟩ := h3 hne
    exact ⟨g, off, e2, Nat.lt_of_lt_of_le hl k.size, fun i hi => range_keep (h5 i hi) k (by simp)⟩⟩
theorem DlsAt.shape {w : World} {v : Value} {ds : List Dl} (h : DlsAt w v ds) : ∃ a c, v = .slice a ds.length c := by
  obtain ⟨a, cap, rfl, _⟩ := h
  exact ⟨a, cap, rfl⟩
theorem DlsAt.at {w : World} {a : Option Addr} {n cap : Nat} {ds : List Dl} (h : DlsAt w (.slice a n cap) ds) (i : Nat) (hi : i < ds.length) : ∃ g off, a = some ⟨g, off, none⟩ ∧ g < w.heap.size ∧ w.rangeAt g (off + i * 14) ds[i].cells := by
  obtain ⟨a', cap', hv, h1, h2, h0, h4⟩ := h
  injection hv with e1 e2 e3
  subst e1; subst e2; subst e3
  obtain ⟨g, off, rfl, hg, hc⟩ := h4 (by intro e; rw [e] at hi; simp at hi)
  exact ⟨g, off, rfl, hg, hc i hi⟩
/-- Pointers that came in. -/
def PinAt (w : World) (v : Value) (ps : List Pt) : Prop :=
  ∃ (a : Option Addr) (cap : Nat), v = .slice a ps.length cap ∧ ps.length ≤ cap ∧ cap ≤ maxLen ∧ (a = none → cap = 0) ∧
    (ps ≠ [] → ∃ g off, a = some ⟨g, off, none⟩ ∧ g < w.heap.size ∧ ∀ i (h : i < ps.length), w.rangeAt g (off + i * 5) ps[i].cells)
theorem PinAt.keep {w w' : World} {v : Value} {ds : List Pt} (h : PinAt w v ds) (k : Keeps [] w w') : PinAt w' v ds := by
  obtain ⟨a, cap, e, h1, h2, h0, h3⟩ := h
  exact ⟨a, cap, e, h1, h2, h0, fun hne => by
    obtain ⟨g, off, e2, hl, h5⟩ := h3 hne
    exact ⟨g, off, e2, Nat.lt_of_lt_of_le hl k.size, fun i hi => range_keep (h5 i hi) k (by simp)⟩⟩
theorem PinAt.shape {w : World} {v : Value} {ds : List Pt} (h : PinAt w v ds) : ∃ a c, v = .slice a ds.length c := by
  obtain ⟨a, cap, rfl, _⟩ := h
  exact ⟨a, cap, rfl⟩
theorem PinAt.at {w : World} {a : Option Addr} {n cap : Nat} {ds : List Pt} (h : PinAt w (.slice a n cap) ds) (i : Nat) (hi : i < ds.length) : ∃ g off, a = some ⟨g, off, none⟩ ∧ g < w.heap.size ∧ w.rangeAt g (off + i * 5) ds[i].cells := by
  obtain ⟨a', cap', hv, h1, h2, h0, h4⟩ := h
  injection hv with e1 e2 e3
  subst e1; subst e2; subst e3
  obtain ⟨g, off, rfl, hg, hc⟩ := h4 (by intro e; rw [e] at hi; simp at hi)
  exact ⟨g, off, rfl, hg, hc i hi⟩

section
variable {H : Type} {enc : TypeId × Value → H}
theorem cellsDl : Tryd.prog.cellsOf 38 = 14 := by kernel_rfl
theorem cellsPt : Tryd.prog.cellsOf 36 = 5 := by kernel_rfl
theorem cellsSt : Tryd.prog.cellsOf 29 = 3 := by kernel_rfl
theorem cellsI11 : Tryd.prog.cellsOf 3 = 1 := by kernel_rfl
theorem pt_of_trod {W : World} {fuel : Nat} {c0 c1 c2 c3 c4 : Value} {x : DataW H × List MemPlace} (h : DataW.trod enc Tryd.prog W 0 (fun _ => true) true fuel 36 [c0, c1, c2, c3, c4] = some x) : ∃ p : Pt, [c0, c1, c2, c3, c4] = p.cells := by
  obtain ⟨ys, n, _, hx, _, hyl, hf⟩ := DataW.trod_struct Tryd.underlying36 h
  have t0 : DataW.trod enc Tryd.prog W 0 (fun _ => true) true n 29 (([c0, c1, c2, c3, c4].drop 0).take (Tryd.prog.cellsOf 29)) = ys[0]? := hf 0 _ rfl
  have t1 : DataW.trod enc Tryd.prog W 0 (fun _ => true) true n 3 (([c0, c1, c2, c3, c4].drop 3).take (Tryd.prog.cellsOf 3)) = ys[1]? := hf 1 _ rfl
  have t2 : DataW.trod enc Tryd.prog W 0 (fun _ => true) true n 3 (([c0, c1, c2, c3, c4].drop 4).take (Tryd.prog.cellsOf 3)) = ys[2]? := hf 2 _ rfl
  simp only [cellsSt, cellsI11, List.drop_zero, List.drop_succ_cons, List.take_succ_cons, List.take_zero] at t0 t1 t2
  match ys, hyl with
  | [y0, y1, y2], _ =>
    simp only [List.getElem?_cons_zero, List.getElem?_cons_succ] at t0 t1 t2
    obtain ⟨zs, n2, _, _, _, hzl, hg⟩ := DataW.trod_struct Tryd.underlying29 t0
    have s0 : DataW.trod enc Tryd.prog W 0 (fun _ => true) true n2 3 (([c0, c1, c2].drop 0).take (Tryd.prog.cellsOf 3)) = zs[0]? := hg 0 _ rfl
    have s1 : DataW.trod enc Tryd.prog W 0 (fun _ => true) true n2 3 (([c0, c1, c2].drop 1).take (Tryd.prog.cellsOf 3)) = zs[1]? := hg 1 _ rfl
    have s2 : DataW.trod enc Tryd.prog W 0 (fun _ => true) true n2 3 (([c0, c1, c2].drop 2).take (Tryd.prog.cellsOf 3)) = zs[2]? := hg 2 _ rfl
    simp only [cellsI11, List.drop_zero, List.drop_succ_cons, List.take_succ_cons, List.take_zero] at s0 s1 s2
    match zs, hzl with
    | [x0, x1, x2], _ =>
      simp only [List.getElem?_cons_zero, List.getElem?_cons_succ] at s0 s1 s2
      obtain ⟨z0, e0, _, w0⟩ := DataW.trod_int Tryd.underlying3 s0
      obtain ⟨z1, e1, _, w1⟩ := DataW.trod_int Tryd.underlying3 s1
      obtain ⟨z2, e2, _, w2⟩ := DataW.trod_int Tryd.underlying3 s2
      obtain ⟨z3, e3, _, w3⟩ := DataW.trod_int Tryd.underlying3 t1
      obtain ⟨z4, e4, _, w4⟩ := DataW.trod_int Tryd.underlying3 t2
      injection e0 with e0 _
      injection e1 with e1 _
      injection e2 with e2 _
      injection e3 with e3 _
      injection e4 with e4 _
      subst e0; subst e1; subst e2; subst e3; subst e4
      exact ⟨⟨z0, z1, z2, z3, z4⟩, rfl⟩
theorem cells_range {W : World} {g off n : Nat} {cs : List Value} (h : W.cells? 0 ⟨g, off, none⟩ n = some cs) : cs.length = n ∧ W.rangeAt g off cs := by
  obtain ⟨_, hl, hat⟩ := World.cells?_some h
  refine ⟨hl, fun j u hu => ?_⟩
  have hj := (List.getElem?_eq_some_iff.1 hu).1
  have := hat j (by omega)
  rw [Addr.add_lit] at this
  rw [this]; exact hu
theorem dl_of_trod {W : World} {fuel : Nat} {cs : List Value} {x : DataW H × List MemPlace} (hl : cs.length = 14) (h : DataW.trod enc Tryd.prog W 0 (fun _ => true) true fuel 38 cs = some x) : ∃ d : Dl, cs = d.cells := by
  obtain ⟨ys, n, _, hx, _, hyl, hf⟩ := DataW.trod_struct Tryd.underlying38 h
  match cs, hl with
  | [c0, c1, c2, c3, c4, c5, c6, c7, c8, c9, c10, c11, c12, c13], _ =>
    have t0 : DataW.trod enc Tryd.prog W 0 (fun _ => true) true n 3 (([c0, c1, c2, c3, c4, c5, c6, c7, c8, c9, c10, c11, c12, c13].drop 0).take (Tryd.prog.cellsOf 3)) = ys[0]? := hf 0 _ rfl
    have t1 : DataW.trod enc Tryd.prog W 0 (fun _ => true) true n 3 (([c0, c1, c2, c3, c4, c5, c6, c7, c8, c9, c10, c11, c12, c13].drop 1).take (Tryd.prog.cellsOf 3)) = ys[1]? := hf 1 _ rfl
    have t2 : DataW.trod enc Tryd.prog W 0 (fun _ => true) true n 3 (([c0, c1, c2, c3, c4, c5, c6, c7, c8, c9, c10, c11, c12, c13].drop 2).take (Tryd.prog.cellsOf 3)) = ys[2]? := hf 2 _ rfl
    have t3 : DataW.trod enc Tryd.prog W 0 (fun _ => true) true n 3 (([c0, c1, c2, c3, c4, c5, c6, c7, c8, c9, c10, c11, c12, c13].drop 3).take (Tryd.prog.cellsOf 3)) = ys[3]? := hf 3 _ rfl
    have t4 : DataW.trod enc Tryd.prog W 0 (fun _ => true) true n 36 (([c0, c1, c2, c3, c4, c5, c6, c7, c8, c9, c10, c11, c12, c13].drop 4).take (Tryd.prog.cellsOf 36)) = ys[4]? := hf 4 _ rfl
    have t5 : DataW.trod enc Tryd.prog W 0 (fun _ => true) true n 36 (([c0, c1, c2, c3, c4, c5, c6, c7, c8, c9, c10, c11, c12, c13].drop 9).take (Tryd.prog.cellsOf 36)) = ys[5]? := hf 5 _ rfl
    simp only [cellsPt, cellsI11, List.drop_zero, List.drop_succ_cons, List.take_succ_cons, List.take_zero] at t0 t1 t2 t3 t4 t5
    match ys, hyl with
    | [y0, y1, y2, y3, y4, y5], _ =>
      simp only [List.getElem?_cons_zero, List.getElem?_cons_succ] at t0 t1 t2 t3 t4 t5
      obtain ⟨z0, e0, _, w0⟩ := DataW.trod_int Tryd.underlying3 t0
      obtain ⟨z1, e1, _, w1⟩ := DataW.trod_int Tryd.underlying3 t1
      obtain ⟨z2, e2, _, w2⟩ := DataW.trod_int Tryd.underlying3 t2
      obtain ⟨z3, e3, _, w3⟩ := DataW.trod_int Tryd.underlying3 t3
      obtain ⟨p, e4⟩ := pt_of_trod t4
      obtain ⟨q, e5⟩ := pt_of_trod t5
      injection e0 with e0 _
      injection e1 with e1 _
      injection e2 with e2 _
      injection e3 with e3 _
      subst e0; subst e1; subst e2; subst e3
      refine ⟨⟨z0, z1, z2, z3, p, q⟩, ?_⟩
      simp only [Dl.cells, ← e4, ← e5]
      rfl
theorem deltas_of_trod {W : World} {fuel : Nat} {cs : List Value} {x : DataW H × List MemPlace} (h : DataW.trod enc Tryd.prog W 0 (fun _ => true) true fuel 24 cs = some x) : ∃ v ds, cs = [v] ∧ DlsAt W v ds := by
  rcases Go.Deep.open_slice Tryd.underlying24 h with ⟨rfl, _⟩ | ⟨a, len, cap, m, n, D, Pl, rfl, _, hl, hm, hmm, rfl, hi⟩
  · exact ⟨_, [], rfl, none, 0, rfl, by simp, by simp, fun _ => rfl, fun h => absurd rfl h⟩
  · simp only [if_true] at hmm
    subst hmm
    by_cases h0 : len = 0
    · subst h0
      exact ⟨_, [], rfl, some a, m, rfl, by simp, hm, by simp, fun h => absurd rfl h⟩
    · obtain ⟨g, off, sp⟩ := a
      have hsp : sp = none := by
        obtain ⟨cs0, hc, _⟩ := hi 0 (by omega)
        rw [cellsDl] at hc
        obtain ⟨_, hl4, hat⟩ := World.cells?_some hc
        have := hat 0 (by omega)
        rw [List.getElem?_eq_getElem (by omega)] at this
        have hs := World.cell?_spot this
        simpa [Addr.add] using hs
      subst hsp
      obtain ⟨ds, hdl, hda⟩ := list_of (P := fun i (d : Dl) => W.rangeAt g (off + i * 14) d.cells) len (fun i hil => by
        obtain ⟨cs', hc, ht⟩ := hi i (by omega)
        rw [cellsDl, Addr.add_lit] at hc
        obtain ⟨hl14, hr⟩ := cells_range hc
        obtain ⟨d, rfl⟩ := dl_of_trod hl14 ht
        exact ⟨d, hr⟩)
      refine ⟨_, ds, rfl, some ⟨g, off, none⟩, m, by rw [hdl], by omega, hm, by simp, fun _ => ⟨g, off, rfl, ?_, hda⟩⟩
      have := hda 0 (by omega) 0 _ rfl
      exact World.block_lt_of_cell? _ _ this
theorem ptrs_of_trod {W : World} {fuel : Nat} {cs : List Value} {x : DataW H × List MemPlace} (h : DataW.trod enc Tryd.prog W 0 (fun _ => true) true fuel 57 cs = some x) : ∃ v ds, cs = [v] ∧ PinAt W v ds := by
  rcases Go.Deep.open_slice Tryd.underlying57 h with ⟨rfl, _⟩ | ⟨a, len, cap, m, n, D, Pl, rfl, _, hl, hm, hmm, rfl, hi⟩
  · exact ⟨_, [], rfl, none, 0, rfl, by simp, by simp, fun _ => rfl, fun h => absurd rfl h⟩
  · simp only [if_true] at hmm
    subst hmm
    by_cases h0 : len = 0
    · subst h0
      exact ⟨_, [], rfl, some a, m, rfl, by simp, hm, by simp, fun h => absurd rfl h⟩
    · obtain ⟨g, off, sp⟩ := a
      have hsp : sp = none := by
        obtain ⟨cs0, hc, _⟩ := hi 0 (by omega)
        rw [cellsPt] at hc
        obtain ⟨_, hl4, hat⟩ := World.cells?_some hc
        have := hat 0 (by omega)
        rw [List.getElem?_eq_getElem (by omega)] at this
        have hs := World.cell?_spot this
        simpa [Addr.add] using hs
      subst hsp
      obtain ⟨ds, hdl, hda⟩ := list_of (P := fun i (d : Pt) => W.rangeAt g (off + i * 5) d.cells) len (fun i hil => by
        obtain ⟨cs', hc, ht⟩ := hi i (by omega)
        rw [cellsPt, Addr.add_lit] at hc
        obtain ⟨hl5, hr⟩ := cells_range hc
        match cs', hl5 with
        | [c0, c1, c2, c3, c4], _ =>
          obtain ⟨d, e⟩ := pt_of_trod ht
          rw [e] at hr
          exact ⟨d, hr⟩)
      refine ⟨_, ds, rfl, some ⟨g, off, none⟩, m, by rw [hdl], by omega, hm, by simp, fun _ => ⟨g, off, rfl, ?_, hda⟩⟩
      have := hda 0 (by omega) 0 _ rfl
      exact World.block_lt_of_cell? _ _ this
end
end Go.Proofs.YtcfmonlgpccndaaDoor
