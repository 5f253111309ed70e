/- delta: rows of deltas of a call's own; append of deltas. -/
import Derived.Test.YtoglcohdanpciaaDeB
namespace Go.Proofs.Ytoglcohdanpciaa
open Go.RowKit Go.Shelf
set_option maxRecDepth 100000
set_option linter.unusedSimpArgs false

def dcells (ds : List Dl) : List Value := ds.flatMap Dl.cells
theorem dcell_len (d : Dl) : d.cells.length = 14 := rfl
theorem dcells_length (ds : List Dl) : (dcells ds).length = ds.length * 14 := by
  induction ds with
  | nil => rfl
  | cons d ds ih => simp only [dcells, List.flatMap_cons, List.length_append, dcell_len, List.length_cons] at *; omega
theorem dcells_append (a b : List Dl) : dcells (a ++ b) = dcells a ++ dcells b := by simp [dcells]
theorem dcells_cons (m : Dl) (b : List Dl) : dcells (m :: b) = m.cells ++ dcells b := by simp [dcells]
theorem dcells_in : ∀ (ds : List Dl) (i : Nat) (h : i < ds.length) (j : Nat), j < 14 → (dcells ds)[i * 14 + j]? = ds[i].cells[j]?
  | d :: ds, 0, _, j, hj => by
    rw [dcells_cons, Nat.zero_mul, Nat.zero_add, List.getElem?_append_left (by rw [dcell_len]; exact hj)]
    rfl
  | d :: ds, i + 1, h, j, hj => by
    have ih := dcells_in ds i (by simpa using h) j hj
    rw [dcells_cons, List.getElem?_append_right (by rw [dcell_len]; omega)]
    simp only [List.getElem_cons_succ]
    rw [← ih]
    congr 1
    rw [dcell_len]
    omega
theorem dcells_all (ds : List Dl) : ∀ u ∈ dcells ds, u.oneCell' = true := by
  intro u hu
  simp only [dcells, List.mem_flatMap] at hu
  obtain ⟨d, hd, hm⟩ := hu
  have := dcells_one d
  rw [Array.all_eq_true_iff_forall_mem] at this
  exact this u (by simpa using hm)
theorem iDelta3 : (Try.prog.info? 149).map (fun i => (i.zero, i.size, i.bytes)) = some (some (dlV dZ), 14, 112) := by kernel_rfl

/-- Deltas of the call's own. -/
structure OwnD (w : World) (B : Nat) (v : Value) (ds : List Dl) : Prop where
  row : w.ownsRow B 149 14 v ds.length (dcells ds)
theorem OwnD.nil (w : World) (B : Nat) : OwnD w B (.slice none 0 0) [] := ⟨World.ownsRow_nil _ _ _ _⟩
theorem OwnD.blk {w B v ds} (h : OwnD w B v ds) : ∀ k, v.ownBlock = some k → B ≤ k ∧ k < w.heap.size := h.row.lt
theorem OwnD.keep {w w' : World} {B : Nat} {v : Value} {ds : List Dl} {S : List Nat} (h : OwnD w B v ds) (k : Keeps S w w') (hs : ∀ b ∈ S, b < B) : OwnD w' B v ds :=
  ⟨ownsRow_keepP h.row k (fun b hb hm => by have := (h.blk b hb).1; have := hs b hm; omega)⟩
theorem OwnD.later {w w' : World} {B : Nat} {v : Value} {ds : List Dl} (h : OwnD w B v ds) (k : Keeps [] w w') : OwnD w' B v ds := ⟨ownsRow_keepP h.row k (fun b _ hm => by simp at hm)⟩
theorem OwnD.shape {w B v ds} (h : OwnD w B v ds) : ∃ a c, v = .slice a ds.length c := by
  rcases h.row.2 with ⟨rfl, e⟩ | ⟨g, cap, cur, rfl, _⟩
  · exact ⟨none, 0, by rw [e]⟩
  · exact ⟨_, cap, rfl⟩
theorem OwnD.at {w B v ds} (h : OwnD w B v ds) : DlsAt w v ds := by
  rcases h.row.2 with ⟨rfl, h0⟩ | ⟨g, cap, cur, rfl, hb, hg, hnc, hcm, hcs, ht⟩
  · rw [List.eq_nil_of_length_eq_zero h0]
    exact ⟨none, 0, rfl, by simp, by simp, fun _ => rfl, fun h => absurd rfl h⟩
  · refine ⟨_, cap, rfl, hnc, hcm, by simp, fun _ => ⟨g, 0, rfl, lt_of_block hg, fun i hi j u hu => ?_⟩⟩
    have hj : j < 14 := by
      have := (List.getElem?_eq_some_iff.1 hu).1
      rwa [dcell_len] at this
    have := h.row.cells (g := g) rfl (i * 14 + j) u (by rw [dcells_in ds i hi j hj]; exact hu)
    rw [Addr.add_lit] at this
    rwa [← Nat.add_assoc] at this
/-- append of deltas that came in, or were laid, onto deltas of the call's own. -/
theorem append_dls {w : World} {B : Nat} {v : Value} {ds es : List Dl} (h : OwnD w B v ds) (A : Option Addr) (n c : Nat) (hs : DlsAt w (.slice A n c) es) (hl : ds.length + es.length ≤ 100000) (hB : B ≤ w.heap.size) (ty : TypeId) :
    ∃ a' c' w', (Builtin.append_ #[80, 80] ty #[v, .slice A n c]).run Try.prog w = .ok (.slice a' (ds.length + n) c') w' ∧ OwnD w' B (.slice a' (ds.length + n) c') (ds ++ es) ∧ Keeps v.ownBlock.toList w w' := by
  obtain ⟨i, hi, hz, hz3, hz40⟩ := info_parts iDelta3
  obtain ⟨a0, c0, hv0, h1, h2, h0, h4⟩ := id hs
  injection hv0 with e1 e2 e3
  subst e1; subst e2; subst e3
  obtain ⟨a', c', w', hr, ho, hg, hn⟩ := run_append_rowsO (P := Try.prog) w B 80 ty 149 i _ 14 112 Try.underlying80 hi hz hz3 hz40 rfl (by omega) v ds.length (dcells ds) h.row A es.length c (dcells es) (dcells_length es) h0 h1
    (fun ad had j u hu => by
      have hj := (List.getElem?_eq_some_iff.1 hu).1
      rw [dcells_length] at hj
      obtain ⟨g, off, e, hgl, _⟩ := hs.at (j / 14) (by omega)
      obtain ⟨g2, off2, e2, _, hc⟩ := hs.at (j / 14) (by omega)
      rw [had] at e2
      obtain rfl := Option.some.inj e2
      rw [Addr.add_lit]
      have := hc (j % 14) u (by rw [← dcells_in es (j / 14) (by omega) (j % 14) (Nat.mod_lt _ (by omega)), show j / 14 * 14 + j % 14 = j by omega]; exact hu)
      rwa [Nat.add_assoc, show j / 14 * 14 + j % 14 = j by omega] at this) (dcells_all es) (by unfold maxLen; omega) (by omega) hB
  exact ⟨a', c', w', hr, ⟨by rw [List.length_append, dcells_append]; exact ho⟩, (Keeps.refl _ _).grown hg (fun k hk => Or.inl (by simp [hk]))⟩
/-- A row of one in new memory. -/
theorem exec_oneDl {ρ : Operand → Value} {o : Oper} {w : World} (x : Operand) (t : Dl) (ho : o.op = .buildSlice 80 1 #[(0, x)]) (hx : ρ x = dlV t) :
    (execOp ρ o).run Try.prog w = .ok (.value (.slice (some ⟨w.heap.size, 0, none⟩) 1 1)) (w.alloc (.cells t.cells.toArray 149)) := by
  obtain ⟨ie, hie, hz, hs, _⟩ := info_parts iDelta3
  have h : (Instr.buildSlice 80 1 #[(0, dlV t)]).run Try.prog w = .ok (.slice (some ⟨w.heap.size, 0, none⟩) 1 1) (w.alloc (.cells t.cells.toArray 149)) := by
    refine run_buildSlice w _ _ 1 _ _ ie _ Try.underlying80 hie hz (by rw [hs]; decide) (by rw [hs]; decide) ?_
    rw [hs]
    have e : (Array.range (1 * 14)) = #[0, 1, 2, 3, 4, 5, 6, 7, 8, 9, 10, 11, 12, 13] := rfl
    have e2 : (dlV dZ).cells = dlA dZ := rfl
    have e3 : (dlV t).cells = dlA t := rfl
    rw [dlA_is]
    simp only [Instr.fill, e, e2, e3, dlA]
    simp
  simp only [execOp, ho, List.map_toArray, List.map_cons, List.map_nil, hx, Sem.run_bind, h, Result.andThen_ok, Sem.run_pure]
theorem one_dl (w : World) (x : Dl) : DlsAt (w.alloc (.cells x.cells.toArray 149)) (.slice (some ⟨w.heap.size, 0, none⟩) 1 1) [x] :=
  ⟨_, 1, rfl, by simp, by decide, by simp, fun _ => ⟨w.heap.size, 0, rfl, by simp, fun i hi => by
    simp at hi
    subst hi
    exact range_new w x.cells 149⟩⟩
end Go.Proofs.Ytoglcohdanpciaa
