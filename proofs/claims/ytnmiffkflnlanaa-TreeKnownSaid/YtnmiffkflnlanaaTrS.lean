/- The code's tree: List, up to the sort. -/
import Derived.Test.YtnmiffkflnlanaaTrR
namespace Go.Proofs.Ytnmiffkflnlanaa
open Go.RowKit Go.Maps
set_option maxRecDepth 100000

def ensC (es : List En) : List Value := es.flatMap enC
theorem ensC_snoc (es : List En) (x : En) : ensC (es ++ [x]) = ensC es ++ enC x := by simp [ensC]
theorem ensC_len (es : List En) : (ensC es).length = es.length * 3 := by
  induction es with
  | nil => rfl
  | cons x l ih =>
    have hx : (enC x).length = 3 := rfl
    unfold ensC at ih ⊢
    rw [List.flatMap_cons, List.length_append, ih, hx, List.length_cons]
    omega
def enZ : En := ⟨[], 0, false⟩
theorem iEntry : (Try.prog.info? 33).map (fun i => (i.zero, i.size, i.bytes)) = some (some (enV enZ), 3, 32) := by kernel_rfl
theorem infoEntry : ∃ i : TypeInfo, Try.prog.info? 33 = some i ∧ i.zero = some (enV enZ) ∧ i.size = 3 ∧ i.bytes = 32 := by
  have h := iEntry
  cases hq : Try.prog.info? 33 with
  | none => simp [hq] at h
  | some i => simp [hq] at h; exact ⟨i, rfl, h.1, h.2.1, h.2.2⟩
theorem build_en (s : List UInt8) (n : Nat) (b : Bool) (w : World) : (Instr.build 33 #[(0, bstr s), (1, numN n), (2, .bool b)]).run Try.prog w = .ok (enV ⟨s, n, b⟩) w := by kernel_rfl
theorem wpList_buildEn {ops : Array Oper} {rest : List Oper} {o : Oper} {a : Act} {w : World} {Q : Exit → Act → World → Prop} (hgd : o.guard = none) (x y z : Operand) (ho : o.op = .build 33 #[(0, x), (1, y), (2, z)]) (e : En) (hx : a.eval x = bstr e.nm) (hy : a.eval y = numN e.ino) (hz : a.eval z = .bool e.dir)
    (hk : wpList Try.prog ops Q rest (a.put o.dst (enV e)) w) : wpList Try.prog ops Q (o :: rest) a w := by
  refine wpList_is hgd _ _ ?_ hk
  have := build_en e.nm e.ino e.dir w
  simp only [execOp, ho, List.map_toArray, List.map_cons, List.map_nil, hx, hy, hz, Sem.run_bind, this, Result.andThen_ok, Sem.run_pure]
theorem exec_oneEn {ρ : Operand → Value} {o : Oper} {w : World} (x : Operand) (e : En) (ho : o.op = .buildSlice 29 1 #[(0, x)]) (hx : ρ x = enV e) :
    (execOp ρ o).run Try.prog w = .ok (.value (.slice (some ⟨w.heap.size, 0, none⟩) 1 1)) (w.alloc (.cells (enC e).toArray 33)) := by
  obtain ⟨ie, hie, hz, hs, _⟩ := infoEntry
  have h : (Instr.buildSlice 29 1 #[(0, enV e)]).run Try.prog w = .ok (.slice (some ⟨w.heap.size, 0, none⟩) 1 1) (w.alloc (.cells (enC e).toArray 33)) := by
    refine run_buildSlice w _ _ 1 _ _ ie _ Try.underlying29 hie hz (by rw [hs]; decide) (by rw [hs]; decide) ?_
    rw [hs]
    have e1 : (Array.range (1 * 3)) = #[0, 1, 2] := rfl
    have e2 : (enV enZ).cells = #[bstr [], numN 0, .bool false] := rfl
    have e3 : (enV e).cells = #[bstr e.nm, numN e.ino, .bool e.dir] := rfl
    simp only [Instr.fill, e1, e2, e3, enC]
    simp
  simp only [execOp, ho, List.map_toArray, List.map_cons, List.map_nil, hx, Sem.run_bind, h, Result.andThen_ok, Sem.run_pure]
theorem run_appE (w : World) (B : Nat) (ty : TypeId) (v : Value) (es : List En) (hown : w.ownsRow B 33 3 v es.length (ensC es)) (x : En) (hB : B ≤ w.heap.size) (few : es.length ≤ 100000) :
    ∃ a c w', (Builtin.append_ #[29, 29] ty #[v, .slice (some ⟨w.heap.size, 0, none⟩) 1 1]).run Try.prog (w.alloc (.cells (enC x).toArray 33)) = .ok (.slice a (es.length + 1) c) w' ∧
      w'.ownsRow B 33 3 (.slice a (es.length + 1) c) (es.length + 1) (ensC (es ++ [x])) ∧ (w.alloc (.cells (enC x).toArray 33)).grownBy w' v.ownBlock ∧ NewRow (w.alloc (.cells (enC x).toArray 33)) v (.slice a (es.length + 1) c) := by
  obtain ⟨i, hi, hz, hs, hb⟩ := infoEntry
  have h := run_append_rowsO (P := Try.prog) (w.alloc (.cells (enC x).toArray 33)) B 29 ty 33 i (enV enZ) 3 32 Try.underlying29 hi hz hs hb rfl (by omega) v es.length (ensC es) (hown.alloc _)
    (some ⟨w.heap.size, 0, none⟩) 1 1 (enC x) rfl (by simp) (by omega) (fun ad had j u hu => by
      obtain rfl := Option.some.inj had
      rw [Addr.add_lit, cell_of_row _ _ _ _ _ (0, 0) (heap_alloc_new w _), Nat.zero_add]
      simpa using hu) (fun u hu => by
      have := enC_one x
      rw [Array.all_eq_true_iff_forall_mem] at this
      exact this u (by simpa using hu)) (by unfold maxLen; omega) (by omega) (by simp; omega)
  obtain ⟨a, c, w', h1, h2, h3, h4⟩ := h
  exact ⟨a, c, w', h1, by rw [ensC_snoc]; exact h2, h3, h4⟩

theorem ranges_blockT {H : Type} {P : Program} {k : TypeId} {R : Value → Option (DataW H × List MemPlace)} {w w' : World} {b r n : Nat} {D : DataW H} {left : Lit → Bool} {cnt : Nat}
    (h : w.ranges P k R b r n D left cnt) (hb : w'.heap[b]? = w.heap[b]?) (hr : w'.heap[r]? = w.heap[r]?) : w'.ranges P k R b r n D left cnt := by
  obtain ⟨es, clock, since, seen, c0, h1, F, hs, hD, h2, rest⟩ := h
  exact ⟨es, clock, since, seen, c0, hb.trans h1, F, hs, hD, hr.trans h2, rest⟩
theorem ranges_ltT {H : Type} {P : Program} {k : TypeId} {R : Value → Option (DataW H × List MemPlace)} {w : World} {b r n : Nat} {D : DataW H} {left : Lit → Bool} {cnt : Nat}
    (h : w.ranges P k R b r n D left cnt) : b < w.heap.size ∧ r < w.heap.size := by
  obtain ⟨es, clock, since, seen, c0, h1, F, hs, hD, h2, rest⟩ := h
  exact ⟨lt_of_block h1, lt_of_block h2⟩
end Go.Proofs.Ytnmiffkflnlanaa
