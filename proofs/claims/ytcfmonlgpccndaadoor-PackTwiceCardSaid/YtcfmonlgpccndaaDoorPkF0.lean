/- pack: the closure that fills stripes: what it leaves; laws of its operations. -/
import Derived.Test.YtcfmonlgpccndaaDoorPkE
namespace Go.Proofs.YtcfmonlgpccndaaDoor
open Go.RowKit Go.Shelf
set_option maxRecDepth 100000
set_option linter.unusedSimpArgs false
set_option linter.unusedVariables false

def fzA : Array Value := #[.int .i64 0, .int .i64 0, .int .i64 0, .slice none 0 0]
theorem iFull2 : (Tryd.prog.info? 49).map (fun i => (i.zero, i.size)) = some (some (.agg fzA), 4) := by kernel_rfl
theorem iFull3 : (Tryd.prog.info? 49).map (fun i => (i.zero, i.size, i.bytes)) = some (some (.agg fzA), 4, 48) := by kernel_rfl
theorem buildFull (s : Spe) (w : World) : (Instr.build 49 #[(0, .agg #[.int .i64 s.c, .int .i64 s.l, .int .i64 s.n])]).run Tryd.prog w = .ok (.agg #[.int .i64 s.c, .int .i64 s.l, .int .i64 s.n, .slice none 0 0]) w := by kernel_rfl
theorem exec_buildFull {ρ : Operand → Value} {o : Oper} {w : World} (x0 : Operand) (ho : o.op = .build 49 #[(0, x0)]) (s : Spe) (h0 : ρ x0 = .agg #[.int .i64 s.c, .int .i64 s.l, .int .i64 s.n]) :
    (execOp ρ o).run Tryd.prog w = .ok (.value (.agg #[.int .i64 s.c, .int .i64 s.l, .int .i64 s.n, .slice none 0 0])) w := by
  simp only [execOp, ho, List.map_toArray, List.map_cons, List.map_nil, h0, Sem.run_bind, buildFull, Result.andThen_ok, Sem.run_pure]
def newFr (s : Spe) : Fr := ⟨s, .slice none 0 0, []⟩
theorem exec_oneFull {ρ : Operand → Value} {o : Oper} {w : World} (x : Operand) (s : Spe) (ho : o.op = .buildSlice 23 1 #[(0, x)]) (hx : ρ x = .agg #[.int .i64 s.c, .int .i64 s.l, .int .i64 s.n, .slice none 0 0]) :
    (execOp ρ o).run Tryd.prog w = .ok (.value (.slice (some ⟨w.heap.size, 0, none⟩) 1 1)) (w.alloc (.cells (newFr s).cells.toArray 49)) := by
  obtain ⟨ie, hie, hz, hs, _⟩ := info_parts iFull3
  have h : (Instr.buildSlice 23 1 #[(0, .agg #[.int .i64 s.c, .int .i64 s.l, .int .i64 s.n, .slice none 0 0])]).run Tryd.prog w = .ok (.slice (some ⟨w.heap.size, 0, none⟩) 1 1) (w.alloc (.cells (newFr s).cells.toArray 49)) := by
    refine run_buildSlice w _ _ 1 _ _ ie _ Tryd.underlying23 hie hz (by rw [hs]; decide) (by rw [hs]; decide) ?_
    rw [hs]
    have e : (Array.range (1 * 4)) = #[0, 1, 2, 3] := rfl
    have e2 : (Value.agg fzA).cells = fzA := rfl
    have e3 : (Value.agg #[Value.int .i64 s.c, .int .i64 s.l, .int .i64 s.n, .slice none 0 0]).cells = #[Value.int .i64 s.c, .int .i64 s.l, .int .i64 s.n, .slice none 0 0] := rfl
    have e4 : (newFr s).cells.toArray = #[Value.int .i64 s.c, .int .i64 s.l, .int .i64 s.n, .slice none 0 0] := rfl
    rw [e4]
    simp only [Instr.fill, e, e2, e3, fzA]
    simp
  simp only [execOp, ho, List.map_toArray, List.map_cons, List.map_nil, hx, Sem.run_bind, h, Result.andThen_ok, Sem.run_pure]
/-- append of a new stripe. -/
theorem append_full9 {w : World} {B : Nat} {M : List Nat} {v : Value} {xs : List Fr} (h : FsIn w 49 B M v xs) (s : Spe) (hl : xs.length ≤ 1000) (hB : B ≤ w.heap.size) :
    ∃ a' c' w', (Builtin.append_ #[23, 23] 23 #[v, .slice (some ⟨w.heap.size, 0, none⟩) 1 1]).run Tryd.prog (w.alloc (.cells (newFr s).cells.toArray 49)) = .ok (.slice a' (xs.length + 1) c') w' ∧ (∃ M', FsIn w' 49 B M' (.slice a' (xs.length + 1) c') (xs ++ [newFr s]) ∧ (∀ b ∈ M', b ∈ M ∨ w.heap.size ≤ b)) ∧ Keeps v.ownBlock.toList w w' := by
  obtain ⟨i, hi, hz, hz3, hz40⟩ := info_parts iFull3
  have ka : Keeps [] w (w.alloc (.cells (newFr s).cells.toArray 49)) := (Keeps.refl [] w).alloc _
  obtain ⟨a', c', w', hr, ho, hg, hn⟩ := run_append_rowsO (P := Tryd.prog) (w.alloc (.cells (newFr s).cells.toArray 49)) B 23 23 49 i _ 4 48 Tryd.underlying23 hi hz hz3 hz40 rfl (by omega) v xs.length (frcells xs) ((h.later ka).own) (some ⟨w.heap.size, 0, none⟩) 1 1 (newFr s).cells rfl (by simp) (by omega)
    (fun ad had j u hu => by
      obtain rfl := Option.some.inj had
      have := range_new w (newFr s).cells 49 j u hu
      rw [Addr.add_lit]
      exact this) (by intro u hu; simp [newFr, Fr.cells] at hu; rcases hu with rfl | rfl | rfl | rfl <;> rfl) (by unfold maxLen; omega) (by omega) (by simp; omega)
  refine ⟨a', c', w', hr, ⟨_, (h.later ka).push s ho hg hn, fun b hb => ?_⟩, ?_⟩
  · rcases List.mem_append.1 hb with hb | hb
    · rcases hn with hn | hn
      · rw [hn] at hb
        exact .inl (h.memv b (by simpa using hb))
      · have := hn b (by simpa using hb)
        right; simp at this; omega
    · exact .inl hb
  · exact (ka.mono (by simp)).grown hg (fun k hk => Or.inl (by simp [hk]))
/-- append of bytes to a stripe's. -/
theorem append_row9 {w : World} {T : TypeId} {B g c : Nat} {M : List Nat} {xs : List Fr} {b : List Int} (h : FsIn w T B M (.slice (some ⟨g, 0, none⟩) xs.length c) xs) {n : Nat} (hn : n < xs.length) (A : Option Addr) (cb : Nat) (hb : RowAt w (.slice A b.length cb) b)
    (hl : xs[n].d.length + b.length ≤ 100000) (hB : B ≤ w.heap.size) :
    ∃ a' c' w', (Builtin.append_ #[31, 31] 31 #[xs[n].r, .slice A b.length cb]).run Tryd.prog w = .ok (.slice a' (xs[n].d ++ b).length c') w' ∧
      (∃ M', FsIn (w'.setCell ⟨g, n * 4 + 3, none⟩ (.slice a' (xs[n].d ++ b).length c')) T B M' (.slice (some ⟨g, 0, none⟩) xs.length c) (xs.set n ⟨xs[n].s, .slice a' (xs[n].d ++ b).length c', xs[n].d ++ b⟩) ∧ (∀ k ∈ M', k ∈ M ∨ w.heap.size ≤ k)) ∧ Keeps M w w' ∧ w'.cell? ⟨g, n * 4 + 3, none⟩ = some xs[n].r ∧ w'.frozen? ⟨g, n * 4 + 3, none⟩ = false := by
  obtain ⟨i, hi, hz, hz3, hz40⟩ := info_parts info5
  obtain ⟨a0, c0, hv0, h1, h2, h0, hbb, h4⟩ := id hb
  injection hv0 with e1 e2 e3
  subst e1; subst e3
  obtain ⟨a', c', w', hr, ho, hg, hnr⟩ := run_append_rowsO (P := Tryd.prog) w B 31 31 5 i _ 1 1 Tryd.underlying31 hi hz hz3 hz40 rfl (by omega) xs[n].r xs[n].d.length (xs[n].d.map (Value.int .u8)) (h.row n hn) A b.length cb (b.map (Value.int .u8)) (by simp) h0 h1 h4 (by
    intro u hu
    obtain ⟨z, _, rfl⟩ := List.mem_map.1 hu
    rfl) (by unfold maxLen; omega) (by omega) hB
  have e : xs[n].d.length + b.length = (xs[n].d ++ b).length := by simp
  rw [e, ← List.map_append] at ho
  rw [e] at hr hnr
  have own1 : w'.ownsRow B T 4 (.slice (some ⟨g, 0, none⟩) xs.length c) xs.length (frcells xs) := h.own.kept hg (.inr (fun e => h.offv n hn g e.symm rfl))
  refine ⟨a', c', w', hr, ⟨_, h.grow hn ho hbb hg hnr, fun k hk => ?_⟩, (Keeps.refl _ _).grown hg (fun k hk => Or.inl (h.memr n hn k hk)), ?_, own1.frozenAt _⟩
  rotate_left
  · have := own1.cellAt (n * 4 + 3) (by omega)
    rw [frcells_in xs n hn 3 (by omega)] at this
    exact this
  rcases List.mem_append.1 hk with hk | hk
  · rcases hnr with hnr | hnr
    · rw [hnr] at hk
      exact .inl (h.memr n hn k (by simpa using hk))
    · exact .inr (hnr k (by simpa using hk))
  · exact .inl hk

/-- What the closure has: the stripes in the variable at qf, how many servers at qn, the next stripe's name at qs. -/
structure LaySt (w : World) (B : Nat) (M : List Nat) (qf qn qs : Nat) (f : Spe) (n : Int) (v : Value) (xs : List Fr) : Prop where
  bf : w.heap[qf]? = some (.cells #[v] 23 (0, 0))
  fs : FsIn w 49 B M v xs
  bs : w.heap[qs]? = some (.cells #[.int .i64 f.c, .int .i64 f.l, .int .i64 (f.n + xs.length)] 29 (0, 0))
  bn : w.heap[qn]? = some (.cells #[.int .i64 n] 3 (0, 0))
  lf : qf < B
  ls : qs < B
  ln : qn < B
  ne1 : qf ≠ qs
  ne2 : qf ≠ qn
  ne3 : qs ≠ qn
  hM : ∀ b ∈ M, B ≤ b
  hB : B ≤ w.heap.size
def FillP9 (w : World) (B : Nat) (M : List Nat) (qf qn qs : Nat) (f : Spe) (n : Int) (xs : List Fr) (b : List Int) (e : Ending) (w' : World) : Prop :=
  ∃ v' M' xs', e = .returned (ptV (ptrF f (mostI n) (fls xs) b)) ∧ LaySt w' B M' qf qn qs f n v' xs' ∧ fls xs' = putF f (mostI n) (fls xs) b ∧ Keeps (qf :: qs :: M) w w' ∧ (∀ k ∈ M', k ∈ M ∨ w.heap.size ≤ k)
theorem fls_get {xs : List Fr} {i : Nat} (h : i < (fls xs).length) : (fls xs)[i] = (xs[i]'(by rw [fls_len] at h; exact h)).fl := by simp [fls]
theorem lastF_fls {xs : List Fr} (h : 0 < xs.length) : lastF (fls xs) = (xs[xs.length - 1]'(by omega)).fl := by
  rw [lastF_is (by rw [fls_len]; exact h), List.getElem_of_eq rfl]
  simp [fls]
theorem fls_set {xs : List Fr} {n : Nat} {x : Fr} : fls (xs.set n x) = (fls xs).set n x.fl := by simp [fls, List.map_set]
theorem fls_append (xs ys : List Fr) : fls (xs ++ ys) = fls xs ++ fls ys := by simp [fls]
end Go.Proofs.YtcfmonlgpccndaaDoor
