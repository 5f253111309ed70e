/- pack: how the laws' arguments are read: blocks. -/
import Derived.Test.YtcfmonlgpccndaaDoorPkC
import Derived.Test.YtcfmonlgpccndaaDoorPkG15
namespace Go.Proofs.YtcfmonlgpccndaaDoor
open Go.ChangeShapes Go.WideShapes Go.ChangeAt Go.RowKit
set_option maxRecDepth 100000
set_option linter.unusedSimpArgs false
set_option linter.unusedVariables false

section
variable {H : Type} {enc : TypeId × Value → H}
theorem cells_rdirty : Tryd.prog.cellsOf 62 = 2 := by kernel_rfl
theorem cells_int14 : Tryd.prog.cellsOf 3 = 1 := by kernel_rfl
theorem cells_row14 : Tryd.prog.cellsOf 31 = 1 := by kernel_rfl
theorem d2_of_trod {W : World} {fuel : Nat} {c0 c1 : Value} {x : DataW H × List MemPlace}
    (h : DataW.trod enc Tryd.prog W 0 (fun _ => true) true fuel 62 [c0, c1] = some x)
    (hs : ∀ n ∈ x.1.weights Tryd.prog 62, n ≤ reachBytes) : ∃ r : Dr, c0 = .int .i64 r.b ∧ c1 = r.r ∧ RowAt W r.r r.d ∧ r.d.length ≤ 140737488351232 := by
  obtain ⟨ys, n, _, hx, _, hyl, hf⟩ := DataW.trod_struct Tryd.underlying62 h
  have t0 : DataW.trod enc Tryd.prog W 0 (fun _ => true) true n 3 (([c0, c1].drop 0).take (Tryd.prog.cellsOf 3)) = ys[0]? := hf 0 _ rfl
  have t1 : DataW.trod enc Tryd.prog W 0 (fun _ => true) true n 31 (([c0, c1].drop 1).take (Tryd.prog.cellsOf 31)) = ys[1]? := hf 1 _ rfl
  simp only [cells_int14, cells_row14, List.drop_zero, List.drop_succ_cons, List.take_succ_cons, List.take_zero] at t0 t1
  match ys, hyl with
  | [y0, y1], _ =>
    simp only [List.getElem?_cons_zero, List.getElem?_cons_succ] at t0 t1
    obtain ⟨z0, e0, _, w0⟩ := DataW.trod_int Tryd.underlying3 t0
    obtain ⟨v2, zs2, e3, hr2, hl2⟩ := row_of_trod t1 (fun n hn => hs n (by
      rw [hx]
      simp only [DataW.weights, Tryd.underlying62, List.map_cons, List.map_nil, DataW.weightsEach, List.mem_append]
      right; left; exact hn))
    injection e0 with e0 _
    injection e3 with e3 _
    exact ⟨⟨z0, v2, zs2⟩, e0, e3, hr2, hl2⟩
theorem dirtys_of_trod {W : World} {fuel : Nat} {cs : List Value} {x : DataW H × List MemPlace} (h : DataW.trod enc Tryd.prog W 0 (fun _ => true) true fuel 41 cs = some x)
    (hs : ∀ n ∈ x.1.weights Tryd.prog 41, n ≤ reachBytes) : ∃ v rs, cs = [v] ∧ DsAt W v rs := by
  rcases Go.Deep.open_slice Tryd.underlying41 h with ⟨rfl, _⟩ | ⟨a, len, cap, m, n, D, Pl, rfl, _, hl, hm, hmm, rfl, hi⟩
  · exact ⟨_, [], rfl, none, 0, rfl, by simp, by simp, fun _ => rfl, fun h => absurd rfl h⟩
  · simp only [if_true] at hmm
    subst hmm
    have hD : ∀ i, i < len → ∀ k ∈ (D i).weights Tryd.prog 62, k ≤ reachBytes := by
      intro i hi k hk
      refine hs k ?_
      simp only [DataW.weights, Tryd.underlying41]
      refine List.mem_cons_of_mem _ (List.mem_append.2 (Or.inl ?_))
      exact mem_weightsAll (List.mem_map.2 ⟨i, List.mem_range.2 hi, rfl⟩) hk
    by_cases h0 : len = 0
    · subst h0
      exact ⟨_, [], rfl, some a, m, rfl, by simp, hm, by simp, fun h => absurd rfl h⟩
    · obtain ⟨g, off, sp⟩ := a
      have hsp : sp = none := by
        obtain ⟨cs', hc, _⟩ := hi 0 (by omega)
        rw [cells_rdirty] at hc
        obtain ⟨_, hcl, hat⟩ := World.cells?_some hc
        have := hat 0 (by omega)
        rw [List.getElem?_eq_getElem (by omega)] at this
        have hs := World.cell?_spot this
        simpa [Addr.add] using hs
      subst hsp
      obtain ⟨ds, hdl, hda⟩ := list_of (P := fun i r => D2At W g (off + i * 2) r) len (fun i hil => by
        obtain ⟨cs', hc, ht⟩ := hi i (by omega)
        rw [cells_rdirty, Addr.add_lit] at hc
        obtain ⟨_, hl3, hat⟩ := World.cells?_some hc
        match cs', hl3 with
        | [c0, c1], _ =>
          obtain ⟨r, e0, e1, hr, hf⟩ := d2_of_trod ht (hD i hil)
          subst e0; subst e1
          have a0 := hat 0 (by omega)
          have a1 := hat 1 (by omega)
          rw [Addr.add_lit] at a0 a1
          exact ⟨r, fun j u hu => by
            rcases j with _ | _ | j
            · obtain rfl := Option.some.inj hu; exact a0
            · obtain rfl := Option.some.inj hu; exact a1
            · simp [Dr.cells] at hu, hr, hf⟩)
      have hlt : g < W.heap.size := World.block_lt_of_cell? _ _ ((hda 0 (by omega)).rg 0 _ rfl)
      refine ⟨_, ds, rfl, some ⟨g, off, none⟩, m, by rw [hdl], by omega, hm, by simp, fun _ => ⟨g, off, rfl, hlt, hda⟩⟩
end
end Go.Proofs.YtcfmonlgpccndaaDoor
