/- tokens: how the laws' deeds are read. -/
import Derived.Test.YteeagemlaolhjaaTkE
import Derived.Test.YteeagemlaolhjaaOpenC
import Derived.Deep.Strs
import Derived.ChangeSame
namespace Go.Proofs.Yteeagemlaolhjaa
open Go.Deep Go.ChangeShapes Go.WideShapes Go.ChangeAt Go.RowKit Go.Shelf
set_option maxRecDepth 100000
set_option linter.unusedSimpArgs false

/-- Deeds that came in. -/
def DdsAt (w : World) (v : Value) (ds : List Rk) : Prop :=
  ∃ (a : Option Addr) (cap : Nat), v = .slice a ds.length cap ∧ ds.length ≤ cap ∧ cap ≤ maxLen ∧ (a = none → cap = 0) ∧
    (ds ≠ [] → ∃ g off, a = some ⟨g, off, none⟩ ∧ g < w.heap.size ∧ ∀ i (h : i < ds.length), w.rangeAt g (off + i * 4) ds[i].cells)
theorem DdsAt.keep {w w' : World} {v : Value} {ds : List Rk} (h : DdsAt w v ds) (k : Keeps [] w w') : DdsAt w' v ds := by
  obtain ⟨a, cap, e, h1, h2, h0, h3⟩ := h
  exact ⟨a, cap, e, h1, h2, h0, fun hne => by
    obtain ⟨g, off, e2, hl, h5⟩ := h3 hne
    exact ⟨g, off, e2, Nat.lt_of_lt_of_le hl k.size, fun i hi => rkrange_keep (h5 i hi) k (by simp)⟩⟩
theorem DdsAt.shape {w : World} {v : Value} {ds : List Rk} (h : DdsAt w v ds) : ∃ a c, v = .slice a ds.length c := by
  obtain ⟨a, cap, e, _⟩ := h
  exact ⟨a, cap, e⟩
theorem DdsAt.at {w : World} {a : Option Addr} {n c : Nat} {ds : List Rk} (h : DdsAt w (.slice a n c) ds) {i : Nat} (hi : i < ds.length) : ∃ g off, a = some ⟨g, off, none⟩ ∧ g < w.heap.size ∧ w.rangeAt g (off + i * 4) ds[i].cells := by
  obtain ⟨a', cap, e, _, _, _, h3⟩ := h
  injection e with e1 _ _
  subst e1
  obtain ⟨g, off, e2, hl, h5⟩ := h3 (by intro e; rw [e] at hi; simp at hi)
  exact ⟨g, off, e2, hl, h5 i hi⟩
section
variable {H : Type} {enc : TypeId × Value → H}
theorem cellsD15 : Try.prog.cellsOf 37 = 4 := by kernel_rfl
theorem cellsI15 : Try.prog.cellsOf 3 = 1 := by kernel_rfl
theorem cellsB15 : Try.prog.cellsOf 4 = 1 := by kernel_rfl
theorem cells_rangeK {W : World} {g off n : Nat} {cs : List Value} (h : W.cells? 0 ⟨g, off, none⟩ n = some cs) : cs.length = n ∧ W.rangeAt g off cs := by
  obtain ⟨_, hl, hat⟩ := World.cells?_some h
  refine ⟨hl, fun j u hu => ?_⟩
  have hj := (List.getElem?_eq_some_iff.1 hu).1
  have := hat j (by omega)
  rw [Addr.add_lit] at this
  rw [this]; exact hu
theorem d15_of_trod {W : World} {fuel : Nat} {cs : List Value} {x : DataW H × List MemPlace} (hl : cs.length = 4) (h : DataW.trod enc Try.prog W 0 (fun _ => true) true fuel 37 cs = some x) : ∃ d : Rk, cs = d.cells := by
  obtain ⟨ys, n, _, hx, _, hyl, hf⟩ := DataW.trod_struct Try.underlying37 h
  match cs, hl with
  | [c0, c1, c2, c3], _ =>
    have t0 : DataW.trod enc Try.prog W 0 (fun _ => true) true n 3 (([c0, c1, c2, c3].drop 0).take (Try.prog.cellsOf 3)) = ys[0]? := hf 0 _ rfl
    have t1 : DataW.trod enc Try.prog W 0 (fun _ => true) true n 3 (([c0, c1, c2, c3].drop 1).take (Try.prog.cellsOf 3)) = ys[1]? := hf 1 _ rfl
    have t2 : DataW.trod enc Try.prog W 0 (fun _ => true) true n 3 (([c0, c1, c2, c3].drop 2).take (Try.prog.cellsOf 3)) = ys[2]? := hf 2 _ rfl
    have t3 : DataW.trod enc Try.prog W 0 (fun _ => true) true n 4 (([c0, c1, c2, c3].drop 3).take (Try.prog.cellsOf 4)) = ys[3]? := hf 3 _ rfl
    simp only [cellsI15, cellsB15, List.drop_zero, List.drop_succ_cons, List.take_succ_cons, List.take_zero] at t0 t1 t2 t3
    match ys, hyl with
    | [y0, y1, y2, y3], _ =>
      simp only [List.getElem?_cons_zero, List.getElem?_cons_succ] at t0 t1 t2 t3
      obtain ⟨z0, e0, _, w0⟩ := DataW.trod_int Try.underlying3 t0
      obtain ⟨z1, e1, _, w1⟩ := DataW.trod_int Try.underlying3 t1
      obtain ⟨z2, e2, _, w2⟩ := DataW.trod_int Try.underlying3 t2
      obtain ⟨z3, e3, _⟩ := DataW.trod_bool Try.underlying4 t3
      injection e0 with e0 _
      injection e1 with e1 _
      injection e2 with e2 _
      injection e3 with e3 _
      subst e0; subst e1; subst e2; subst e3
      exact ⟨⟨z0, z1, z2, z3⟩, rfl⟩
theorem deeds15_of_trod {W : World} {fuel : Nat} {cs : List Value} {x : DataW H × List MemPlace} (h : DataW.trod enc Try.prog W 0 (fun _ => true) true fuel 31 cs = some x) : ∃ v ds, cs = [v] ∧ DdsAt W v ds := by
  rcases Go.Deep.open_slice Try.underlying31 h with ⟨rfl, _⟩ | ⟨a, len, cap, m, n, D, Pl, rfl, _, hl, hm, hmm, rfl, hi⟩
  · exact ⟨_, [], rfl, none, 0, rfl, by simp, by simp, fun _ => rfl, fun h => absurd rfl h⟩
  · simp only [if_true] at hmm
    subst hmm
    by_cases h0 : len = 0
    · subst h0
      exact ⟨_, [], rfl, some a, m, rfl, by simp, hm, by simp, fun h => absurd rfl h⟩
    · obtain ⟨g, off, sp⟩ := a
      have hsp : sp = none := by
        obtain ⟨cs0, hc, _⟩ := hi 0 (by omega)
        rw [cellsD15] at hc
        obtain ⟨_, hl4, hat⟩ := World.cells?_some hc
        have := hat 0 (by omega)
        rw [List.getElem?_eq_getElem (by omega)] at this
        have hs := World.cell?_spot this
        simpa [Addr.add] using hs
      subst hsp
      obtain ⟨ds, hdl, hda⟩ := list_of (P := fun i (d : Rk) => W.rangeAt g (off + i * 4) d.cells) len (fun i hil => by
        obtain ⟨cs', hc, ht⟩ := hi i (by omega)
        rw [cellsD15, Addr.add_lit] at hc
        obtain ⟨hl4b, hr⟩ := cells_rangeK hc
        obtain ⟨d, rfl⟩ := d15_of_trod hl4b ht
        exact ⟨d, hr⟩)
      refine ⟨_, ds, rfl, some ⟨g, off, none⟩, m, by rw [hdl], by omega, hm, by simp, fun _ => ⟨g, off, rfl, ?_, hda⟩⟩
      have := hda 0 (by omega) 0 _ rfl
      exact World.block_lt_of_cell? _ _ this
end
end Go.Proofs.Yteeagemlaolhjaa
