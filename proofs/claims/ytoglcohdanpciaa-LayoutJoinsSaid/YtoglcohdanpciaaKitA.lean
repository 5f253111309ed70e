/- Laws of the walk that speak of no program: drawn regions one operation at a time, what is kept, single operations. (For every layer without the texts of disk.) -/
import Derived.Test.YtoglcohdanpciaaBase
import Derived.Test.YtoglcohdanpciaaRows
import Derived.OrdersHeld
import Derived.Shelf.Abstract
import Derived.Shelf.RegionOpen
import Derived.Deep.RegionLaw
import Derived.Laws.AppendOwnNone
namespace Go.Proofs.Ytoglcohdanpciaa
open Go.RowKit Go.Shelf

section
variable {P : Program} {ops : Array Oper} {Q : Exit → Act → World → Prop} {md : Region.Mode}

/-- What may be taken first, in whatever world of S. -/
theorem held_take {S : World → Prop} {i : Nat} {oi : Oper} {v : Value} {fuel : Nat} {listed : Array Bool} {a : Act} {w : World} (hi : ops.toList[i]? = some oi)
    (hs : Region.noSelect ops = true) (hf : Region.free md ops listed i = true) (hr : (Region.ready md ops listed).contains i = true)
    (hQ : ∀ c a w, Q (.panic c) (a.put oi.dst v) w → Q (.panic c) a w) (hg : oi.guard = none) (hy : ∀ w, S w → (execOp a.eval oi).run P w = .ok (.value v) w) (hS : S w)
    (h : wpAnyH P md ops Q S fuel (listed.setIfInBounds i true) (a.put oi.dst v) w) : wpAnyH P md ops Q S (fuel + 1) listed a w :=
  wpAnyH_take (by simpa using hi) hs hf hr hQ (Or.inl ⟨by simp [Region.wanted, hg], hy⟩) hS h

/-- The one that may come up. -/
theorem held_do {S : World → Prop} {i : Nat} {o : Oper} {fuel : Nat} {listed : Array Bool} {a : Act} {w : World} (hr : Region.ready md ops listed = [i]) (ho' : ops.toList[i]? = some o) (hg : o.guard = none)
    (h : o.wp P a w (fun a' w' => S w' ∧ wpAnyH P md ops Q S fuel (listed.setIfInBounds i true) a' w') Q) : wpAnyH P md ops Q S (fuel + 1) listed a w := by
  have ho : ops[i]? = some o := by simpa using ho'
  have hw : Region.wanted o (yielded ops a.tmps) = true := by simp [Region.wanted, hg]
  refine wpAnyH_all hr (by simp) fun j hj => ?_
  obtain rfl : j = i := by simpa using hj
  unfold wpOp
  simp only [ho, hw, if_true]
  exact Or.inl h

theorem wp_value {o : Oper} {a : Act} {w w' : World} {K : Act → World → Prop} {v : Value} (hrun : (execOp a.eval o).run P w = .ok (.value v) w') (h : K (a.put o.dst v) w') : o.wp P a w K Q := by
  unfold Oper.wp
  rw [hrun, Oper.upon_value]
  exact h

theorem wp_stored {o : Oper} {a : Act} {w w' : World} {K : Act → World → Prop} (hrun : (execOp a.eval o).run P w = .ok .skip w') (h : K (a.put o.dst undef) w') : o.wp P a w K Q := by
  unfold Oper.wp
  rw [hrun]
  exact h

/-- A call of a Go function. -/
theorem wp_enter {o : Oper} {a : Act} {w : World} {K : Act → World → Prop} {f : FuncId} {args : Array Value} {R : Ending → World → Prop} (hrun : (execOp a.eval o).run P w = .ok (.enter f args) w) (hc : Calls P f args w R)
    (h : ∀ e w', R e w' → ∃ v, e = .returned v ∧ K (a.put o.dst v) w') : o.wp P a w K Q := by
  unfold Oper.wp
  rw [hrun, Oper.upon_enter]
  refine hc.mono fun e w' hr => ?_
  obtain ⟨v, rfl, hk⟩ := h e w' hr
  exact hk

/-- A guarded one that is wanted. -/
theorem held_takeW {S : World → Prop} {i : Nat} {oi : Oper} {v : Value} {fuel : Nat} {listed : Array Bool} {a : Act} {w : World} (hi : ops.toList[i]? = some oi)
    (hs : Region.noSelect ops = true) (hf : Region.free md ops listed i = true) (hr : (Region.ready md ops listed).contains i = true)
    (hQ : ∀ c a w, Q (.panic c) (a.put oi.dst v) w → Q (.panic c) a w) (hw : Region.wanted oi (yielded ops a.tmps) = true) (hy : ∀ w, S w → (execOp a.eval oi).run P w = .ok (.value v) w) (hS : S w)
    (h : wpAnyH P md ops Q S fuel (listed.setIfInBounds i true) (a.put oi.dst v) w) : wpAnyH P md ops Q S (fuel + 1) listed a w :=
  wpAnyH_take (by simpa using hi) hs hf hr hQ (Or.inl ⟨hw, hy⟩) hS h
/-- A guarded one that is not wanted. -/
theorem held_skip {S : World → Prop} {i : Nat} {oi : Oper} {fuel : Nat} {listed : Array Bool} {a : Act} {w : World} (hi : ops.toList[i]? = some oi)
    (hs : Region.noSelect ops = true) (hf : Region.free md ops listed i = true) (hr : (Region.ready md ops listed).contains i = true)
    (hQ : ∀ c a w, Q (.panic c) (a.put oi.dst undef) w → Q (.panic c) a w) (hw : Region.wanted oi (yielded ops a.tmps) = false) (hS : S w)
    (h : wpAnyH P md ops Q S fuel (listed.setIfInBounds i true) (a.put oi.dst undef) w) : wpAnyH P md ops Q S (fuel + 1) listed a w :=
  wpAnyH_take (by simpa using hi) hs hf hr hQ (Or.inr ⟨hw, rfl⟩) hS h
/-- A guarded one that is wanted, and the one that may come up. -/
theorem held_doW {S : World → Prop} {i : Nat} {o : Oper} {fuel : Nat} {listed : Array Bool} {a : Act} {w : World} (hr : Region.ready md ops listed = [i]) (ho' : ops.toList[i]? = some o) (hw : Region.wanted o (yielded ops a.tmps) = true)
    (h : o.wp P a w (fun a' w' => S w' ∧ wpAnyH P md ops Q S fuel (listed.setIfInBounds i true) a' w') Q) : wpAnyH P md ops Q S (fuel + 1) listed a w := by
  have ho : ops[i]? = some o := by simpa using ho'
  refine wpAnyH_all hr (by simp) fun j hj => ?_
  obtain rfl : j = i := by simpa using hj
  unfold wpOp
  simp only [ho, hw, if_true]
  exact Or.inl h

/-- A call of a Go function that may panic. -/
theorem wp_enter2 {o : Oper} {a : Act} {w : World} {K : Act → World → Prop} {f : FuncId} {args : Array Value} {R : Ending → World → Prop} (hrun : (execOp a.eval o).run P w = .ok (.enter f args) w) (hc : Calls P f args w R)
    (h : ∀ e w', R e w' → (∃ v, e = .returned v ∧ K (a.put o.dst v) w') ∨ ∃ ch, e = .panicked ch ∧ Q (.panic ch) a w') : o.wp P a w K Q := by
  unfold Oper.wp
  rw [hrun, Oper.upon_enter]
  refine hc.mono fun e w' hr => ?_
  rcases h e w' hr with ⟨v, rfl, hk⟩ | ⟨ch, rfl, hk⟩
  · exact hk
  · exact hk

theorem any_op {i : Nat} {o : Oper} {a : Act} {w w' : World} {v : Value} {K : Act → World → Prop} (ho : ops[i]? = some o) (hg : o.guard = none) (hrun : (execOp a.eval o).run P w = .ok (.value v) w') (h : K (a.put o.dst v) w') : wpOp P ops Q i K a w := by
  have hw : Region.wanted o (yielded ops a.tmps) = true := by simp [Region.wanted, hg]
  unfold wpOp
  simp only [ho, hw, if_true]
  refine Or.inl ?_
  unfold Oper.wp
  rw [hrun, Oper.upon_value]
  exact h

theorem any_take {i : Nat} {oi : Oper} {v : Value} {fuel : Nat} {listed : Array Bool} {a : Act} {w : World} (hi : ops.toList[i]? = some oi)
    (hs : Region.noSelect ops = true) (hf : Region.free md ops listed i = true) (hr : (Region.ready md ops listed).contains i = true)
    (hQ : ∀ c a w, Q (.panic c) (a.put oi.dst v) w → Q (.panic c) a w) (hg : oi.guard = none) (hy : ∀ w, (execOp a.eval oi).run P w = .ok (.value v) w)
    (h : wpAny P md ops Q fuel (listed.setIfInBounds i true) (a.put oi.dst v) w) : wpAny P md ops Q (fuel + 1) listed a w :=
  wpAny_take (by simpa using hi) hs hf hr hQ (Or.inl ⟨by simp [Region.wanted, hg], hy⟩) h

/-- The one that may come up. -/
theorem any_do {i : Nat} {o : Oper} {fuel : Nat} {listed : Array Bool} {a : Act} {w : World} (hr : Region.ready md ops listed = [i]) (ho' : ops.toList[i]? = some o) (hg : o.guard = none)
    (h : o.wp P a w (wpAny P md ops Q fuel (listed.setIfInBounds i true)) Q) : wpAny P md ops Q (fuel + 1) listed a w := by
  have ho : ops[i]? = some o := by simpa using ho'
  have hw : Region.wanted o (yielded ops a.tmps) = true := by simp [Region.wanted, hg]
  refine wpAny_all hr (by simp) fun j hj => ?_
  obtain rfl : j = i := by simpa using hj
  unfold wpOp
  simp only [ho, hw, if_true]
  exact Or.inl h


theorem exec_load {P : Program} {ρ : Operand → Value} {o : Oper} {w : World} (t : TypeId) (x : Operand) (u v : Value) (ho : o.op = .load t x) (hx : ρ x = u) (h : (Instr.loadAt t u).run P w = .ok v w) : (execOp ρ o).run P w = .ok (.value v) w := by
  simp only [execOp, ho, hx, Sem.run_bind, h, Result.andThen_ok, Sem.run_pure]


theorem any_wp {i : Nat} {o : Oper} {a : Act} {w : World} {K : Act → World → Prop} (ho : ops[i]? = some o) (hg : o.guard = none) (h : o.wp P a w K Q) : wpOp P ops Q i K a w := by
  have hw : Region.wanted o (yielded ops a.tmps) = true := by simp [Region.wanted, hg]
  unfold wpOp
  simp only [ho, hw, if_true]
  exact Or.inl h

theorem any_chain {i j k : Nat} {oi oj ok : Oper} {vi : Value} {R1 : Value → World → Prop} {R2 : Value → Value → World → Prop} {fuel : Nat} {listed : Array Bool} {a : Act} {w : World}
    (r0 : Region.ready md ops listed = [i, j]) (r1 : Region.ready md ops (listed.setIfInBounds i true) = [j]) (r2 : Region.ready md ops ((listed.setIfInBounds i true).setIfInBounds j true) = [k])
    (r3 : Region.ready md ops (listed.setIfInBounds j true) = [i, k]) (r5 : Region.ready md ops ((listed.setIfInBounds j true).setIfInBounds k true) = [i])
    (hij : i ≠ j) (hik : i ≠ k) (hi' : ops.toList[i]? = some oi) (hj' : ops.toList[j]? = some oj) (hk' : ops.toList[k]? = some ok) (gi : oi.guard = none) (gj : oj.guard = none) (gk : ok.guard = none)
    (dij : ∀ d, oj.dst = some d → oi.dst ≠ some d) (dik : ∀ d, ok.dst = some d → oi.dst ≠ some d)
    (e0 : (execOp a.eval oi).run P w = .ok (.value vi) w)
    (e1 : ∀ v w1, R1 v w1 → (execOp (a.put oj.dst v).eval oi).run P w1 = .ok (.value vi) w1)
    (e2 : ∀ v u w2, R2 v u w2 → (execOp ((a.put oj.dst v).put ok.dst u).eval oi).run P w2 = .ok (.value vi) w2)
    (ej : ∀ (K : Act → World → Prop), (∀ v w1, R1 v w1 → K (a.put oj.dst v) w1) → oj.wp P a w K Q)
    (ej' : ∀ (K : Act → World → Prop), (∀ v w1, R1 v w1 → K ((a.put oi.dst vi).put oj.dst v) w1) → oj.wp P (a.put oi.dst vi) w K Q)
    (ek : ∀ v w1, R1 v w1 → ∃ u w2, (execOp (a.put oj.dst v).eval ok).run P w1 = .ok (.value u) w2 ∧ R2 v u w2)
    (ek' : ∀ v w1, R1 v w1 → ∃ u w2, (execOp ((a.put oi.dst vi).put oj.dst v).eval ok).run P w1 = .ok (.value u) w2 ∧ R2 v u w2)
    (h : ∀ v u w2, R2 v u w2 → wpAny P md ops Q fuel (((listed.setIfInBounds i true).setIfInBounds j true).setIfInBounds k true) (((a.put oi.dst vi).put oj.dst v).put ok.dst u) w2) :
    wpAny P md ops Q (fuel + 3) listed a w := by
  have hi : ops[i]? = some oi := by simpa using hi'
  have hj : ops[j]? = some oj := by simpa using hj'
  have hk : ops[k]? = some ok := by simpa using hk'
  have c1 : (listed.setIfInBounds j true).setIfInBounds i true = (listed.setIfInBounds i true).setIfInBounds j true := Array.setIfInBounds_comm _ _ (Ne.symm hij)
  have c2 : ((listed.setIfInBounds j true).setIfInBounds k true).setIfInBounds i true = ((listed.setIfInBounds i true).setIfInBounds j true).setIfInBounds k true := by
    rw [Array.setIfInBounds_comm _ _ (Ne.symm hik), c1]
  have p1 : ∀ v, ((a.put oj.dst v).put oi.dst vi) = (a.put oi.dst vi).put oj.dst v := fun v => Act.put_comm a v vi dij
  have p2 : ∀ v u, (((a.put oj.dst v).put ok.dst u).put oi.dst vi) = ((a.put oi.dst vi).put oj.dst v).put ok.dst u := fun v u => by
    rw [← p1]; exact Act.put_comm _ u vi dik
  refine wpAny_all r0 (by simp) fun x hx => ?_
  simp only [List.mem_cons, List.not_mem_nil, or_false] at hx
  rcases hx with rfl | rfl
  · refine any_op hi gi e0 (wpAny_all r1 (by simp) fun y hy => ?_)
    obtain rfl : y = j := by simpa using hy
    refine any_wp hj gj (ej' _ fun v w1 hR => wpAny_all r2 (by simp) fun z hz => ?_)
    obtain rfl : z = k := by simpa using hz
    obtain ⟨u, w2, hrun, hR2⟩ := ek' v w1 hR
    exact any_op hk gk hrun (h v u w2 hR2)
  · refine any_wp hj gj (ej _ fun v w1 hR => wpAny_all r3 (by simp) fun y hy => ?_)
    simp only [List.mem_cons, List.not_mem_nil, or_false] at hy
    rcases hy with rfl | rfl
    · refine any_op hi gi (e1 v w1 hR) ?_
      rw [c1, p1]
      refine wpAny_all r2 (by simp) fun z hz => ?_
      obtain rfl : z = k := by simpa using hz
      obtain ⟨u, w2, hrun, hR2⟩ := ek' v w1 hR
      exact any_op hk gk hrun (h v u w2 hR2)
    · obtain ⟨u, w2, hrun, hR2⟩ := ek v w1 hR
      refine any_op hk gk hrun (wpAny_all r5 (by simp) fun z hz => ?_)
      obtain rfl : z = i := by simpa using hz
      refine any_op hi gi (e2 v u w2 hR2) ?_
      rw [c2, p2]
      exact h v u w2 hR2

end

theorem exec_appendT {P : Program} {ρ : Operand → Value} {o : Oper} {w w' : World} {v u z : Value} (t : TypeId) (x y : Operand) (ho : o.op = .call { callee := .builtin .append, args := #[x, y], argTypes := #[t, t] }) (hx : ρ x = u) (hy : ρ y = z) (h : (Builtin.append_ #[t, t] o.type #[u, z]).run P w = .ok v w') : (execOp ρ o).run P w = .ok (.value v) w' := by
  simp [execOp, ho, resolve, invoke, builtin, hx, hy, h, Result.andThen]

theorem wpList_is {P : Program} {ops : Array Oper} {rest : List Oper} {o : Oper} {a : Act} {w : World} {Q : Exit → Act → World → Prop} (hgd : o.guard = none) (v : Value) (w' : World) (hrun : (execOp a.eval o).run P w = .ok (.value v) w') (h : wpList P ops Q rest (a.put o.dst v) w') : wpList P ops Q (o :: rest) a w := by
  refine wpList_plain hgd fun K hK => ?_
  unfold Oper.wp
  rw [hrun, Oper.upon_value]
  exact hK _ _ h

/-- Behind a step all blocks below n₀ are as they were, but those of S. -/
structure KpS (S : List Nat) (n₀ : Nat) (A B : World) : Prop where
  os : B.os = A.os
  tape : B.tape = A.tape
  output : B.output = A.output
  size : A.heap.size ≤ B.heap.size
  block : ∀ k, k < n₀ → k ∉ S → B.heap[k]? = A.heap[k]?

theorem KpS.refl (S : List Nat) (n₀ : Nat) (A : World) : KpS S n₀ A A := ⟨rfl, rfl, rfl, Nat.le_refl _, fun _ _ _ => rfl⟩
theorem KpS.trans {S : List Nat} {n₀ : Nat} {A B C : World} (h : KpS S n₀ A B) (k : KpS S n₀ B C) : KpS S n₀ A C :=
  ⟨k.os.trans h.os, k.tape.trans h.tape, k.output.trans h.output, Nat.le_trans h.size k.size, fun i hi hs => (k.block i hi hs).trans (h.block i hi hs)⟩
theorem KpS.alloc {S : List Nat} {n₀ : Nat} {A B : World} (h : KpS S n₀ A B) (hn : n₀ ≤ B.heap.size) (o : Obj) : KpS S n₀ A (B.alloc o) :=
  h.trans ⟨rfl, rfl, rfl, by simp, fun k hk _ => Below.heap_alloc _ _ _ (by omega)⟩
theorem KpS.keeps {S T : List Nat} {n₀ : Nat} {A B C : World} (h : KpS S n₀ A B) (k : Keeps T B C) (hn : n₀ ≤ B.heap.size) (hT : ∀ i ∈ T, i < n₀ → i ∈ S) : KpS S n₀ A C :=
  h.trans ⟨k.os, k.tape, k.output, k.size, fun i hi hs => k.block i (by omega) (fun hm => hs (hT i hm hi))⟩
theorem KpS.below {S : List Nat} {n₀ m : Nat} {A B : World} (h : Below m A B) (hm : n₀ ≤ m) : KpS S n₀ A B :=
  ⟨h.os, h.tape, h.output, h.size, fun k hk _ => h.block k (by omega)⟩
theorem KpS.toKeeps {S : List Nat} {A B : World} (h : KpS S A.heap.size A B) : Keeps S A B := ⟨h.os, h.tape, h.output, h.size, h.block⟩
theorem KpS.cell {S : List Nat} {n₀ : Nat} {A B : World} (h : KpS S n₀ A B) {b o : Nat} {v : Value} (hc : A.cell? ⟨b, o, none⟩ = some v) (hb : b < n₀) (hs : b ∉ S) : B.cell? ⟨b, o, none⟩ = some v := by
  rw [World.cell?_of_block (w := A) (h.block b hb hs)]; exact hc

theorem run_loadCell {P : Program} (w : World) (t : TypeId) (a : Addr) (v : Value) (hc : w.cell? a = some v) (ht : ∀ w, (isAgg t).run P w = .ok false w) : (Instr.loadAt t (.pointer (some a))).run P w = .ok v w := by
  simp [Instr.loadAt, Instr.sureAddr, loadVar, ht, hc, Result.andThen]
theorem agg_no (t : TypeId) (h : (match Try.prog.underlying t with | some (.struct _) | some (.array _ _) | none => false | _ => true) = true) (W : World) : (isAgg t).run Try.prog W = .ok false W := by
  cases hu : Try.prog.underlying t with
  | none => simp [hu] at h
  | some d =>
    unfold isAgg
    rw [Sem.run_bind, run_underlying hu W]
    cases d <;> simp_all

theorem exec_sliceR {P : Program} {ρ : Operand → Value} {o : Oper} {w : World} {v : Value} (t : TypeId) (x : Operand) (lo hi mx : Option Operand) (ho : o.op = .slice t x lo hi mx) (h : (Instr.sliceAt t (ρ x) (lo.map ρ) (hi.map ρ) (mx.map ρ)).run P w = .ok v w) : (execOp ρ o).run P w = .ok (.value v) w := by
  simp only [execOp, ho, Sem.run_bind, h, Result.andThen_ok, Sem.run_pure]

theorem Keeps.cell' {S : List Nat} {w w' : World} (k : Keeps S w w') {a : Addr} {v : Value} (h : w.cell? a = some v) (hs : a.block ∉ S) : w'.cell? a = some v := by
  rw [World.cell?_of_block (w := w) (k.block _ (World.block_lt_of_cell? _ _ h) hs)]
  exact h
end Go.Proofs.Ytoglcohdanpciaa
