/- A drawn region: a load beside a chain of two (a call or what makes memory, then an operation). -/
import Derived.Test.YtofoeemgplggbaaRfD
namespace Go.Proofs.Ytofoeemgplggbaa
open Go.RowKit

section
variable {P : Program} {ops : Array Oper} {Q : Exit → Act → World → Prop} {md : Region.Mode}

theorem any_wp {i : Nat} {o : Oper} {a : Act} {w : World} {K : Act → World → Prop} (ho : ops[i]? = some o) (hg : o.guard = none) (h : o.wp P a w K Q) : wpOp P ops Q i K a w := by
  have hw : Region.wanted o (yielded ops a.tmps) = true := by simp [Region.wanted, hg]
  unfold wpOp
  simp only [ho, hw, if_true]
  exact Or.inl h

theorem any_chain {i j k : Nat} {oi oj ok : Oper} {vi : Value} {R1 : Value → World → Prop} {R2 : Value → Value → World → Prop} {fuel : Nat} {listed : Array Bool} {a : Act} {w : World}
    (r0 : Region.ready md ops listed = [i, j]) (r1 : Region.ready md ops (listed.setIfInBounds i true) = [j]) (r2 : Region.ready md ops ((listed.setIfInBounds i true).setIfInBounds j true) = [k])
    (r3 : Region.ready md ops (listed.setIfInBounds j true) = [i, k]) (r5 : Region.ready md ops ((listed.setIfInBounds j true).setIfInBounds k true) = [i])
    (hij : i ≠ j) (hik : i ≠ k) (hi' : ops.toList[i]? = some oi) (hj' : ops.toList[j]? = some oj) (hk' : ops.toList[k]? = some ok) (gi : oi.guard = none) (gj : oj.guard = none) (gk : ok.guard = none)
    (dij : ∀ d, oj.dst = some d → oi.dst ≠ some d) (dik : ∀ d, ok.dst = some d → oi.dst ≠ some d)
    (e0 : (execOp a.eval oi).run P w = .ok (.value vi) w)
    (e1 : ∀ v w1, R1 v w1 → (execOp (a.put oj.dst v).eval oi).run P w1 = .ok (.value vi) w1)
    (e2 : ∀ v u w2, R2 v u w2 → (execOp ((a.put oj.dst v).put ok.dst u).eval oi).run P w2 = .ok (.value vi) w2)
    (ej : ∀ (K : Act → World → Prop), (∀ v w1, R1 v w1 → K (a.put oj.dst v) w1) → oj.wp P a w K Q)
    (ej' : ∀ (K : Act → World → Prop), (∀ v w1, R1 v w1 → K ((a.put oi.dst vi).put oj.dst v) w1) → oj.wp P (a.put oi.dst vi) w K Q)
    (ek : ∀ v w1, R1 v w1 → ∃ u w2, (execOp (a.put oj.dst v).eval ok).run P w1 = .ok (.value u) w2 ∧ R2 v u w2)
    (ek' : ∀ v w1, R1 v w1 → ∃ u w2, (execOp ((a.put oi.dst vi).put oj.dst v).eval ok).run P w1 = .ok (.value u) w2 ∧ R2 v u w2)
    (h : ∀ v u w2, R2 v u w2 → wpAny P md ops Q fuel (((listed.setIfInBounds i true).setIfInBounds j true).setIfInBounds k true) (((a.put oi.dst vi).put oj.dst v).put ok.dst u) w2) :
    wpAny P md ops Q (fuel + 3) listed a w := by
  have hi : ops[i]? = some oi := by simpa using hi'
  have hj : ops[j]? = some oj := by simpa using hj'
  have hk : ops[k]? = some ok := by simpa using hk'
  have c1 : (listed.setIfInBounds j true).setIfInBounds i true = (listed.setIfInBounds i true).setIfInBounds j true := Array.setIfInBounds_comm _ _ (Ne.symm hij)
  have c2 : ((listed.setIfInBounds j true).setIfInBounds k true).setIfInBounds i true = ((listed.setIfInBounds i true).setIfInBounds j true).setIfInBounds k true := by
    rw [Array.setIfInBounds_comm _ _ (Ne.symm hik), c1]
  have p1 : ∀ v, ((a.put oj.dst v).put oi.dst vi) = (a.put oi.dst vi).put oj.dst v := fun v => Act.put_comm a v vi dij
  have p2 : ∀ v u, (((a.put oj.dst v).put ok.dst u).put oi.dst vi) = ((a.put oi.dst vi).put oj.dst v).put ok.dst u := fun v u => by
    rw [← p1]; exact Act.put_comm _ u vi dik
  refine wpAny_all r0 (by simp) fun x hx => ?_
  simp only [List.mem_cons, List.not_mem_nil, or_false] at hx
  rcases hx with rfl | rfl
  · refine any_op hi gi e0 (wpAny_all r1 (by simp) fun y hy => ?_)
    obtain rfl : y = j := by simpa using hy
    refine any_wp hj gj (ej' _ fun v w1 hR => wpAny_all r2 (by simp) fun z hz => ?_)
    obtain rfl : z = k := by simpa using hz
    obtain ⟨u, w2, hrun, hR2⟩ := ek' v w1 hR
    exact any_op hk gk hrun (h v u w2 hR2)
  · refine any_wp hj gj (ej _ fun v w1 hR => wpAny_all r3 (by simp) fun y hy => ?_)
    simp only [List.mem_cons, List.not_mem_nil, or_false] at hy
    rcases hy with rfl | rfl
    · refine any_op hi gi (e1 v w1 hR) ?_
      rw [c1, p1]
      refine wpAny_all r2 (by simp) fun z hz => ?_
      obtain rfl : z = k := by simpa using hz
      obtain ⟨u, w2, hrun, hR2⟩ := ek' v w1 hR
      exact any_op hk gk hrun (h v u w2 hR2)
    · obtain ⟨u, w2, hrun, hR2⟩ := ek v w1 hR
      refine any_op hk gk hrun (wpAny_all r5 (by simp) fun z hz => ?_)
      obtain rfl : z = i := by simpa using hz
      refine any_op hi gi (e2 v u w2 hR2) ?_
      rw [c2, p2]
      exact h v u w2 hR2
end
end Go.Proofs.Ytofoeemgplggbaa
