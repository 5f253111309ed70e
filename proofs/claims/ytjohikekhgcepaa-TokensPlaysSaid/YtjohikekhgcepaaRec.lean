/- A region that begins with recover, entered as a deferred call: what is behind it is walked as any code. -/
import Derived.Test.YtjohikekhgcepaaBase
import Derived.Defers
import Derived.Recover
namespace Go.Proofs.Ytjohikekhgcepaa
open Go.RowKit

section
variable {P : Program} {Q : Exit → Act → List Frame → World → Prop} {a : Act} {cs cs' : List Frame} {w : World} {ops : Array Oper} {o : Oper} {v : Value}

theorem wpS_recover_seq {id : Nat} {y : Code} {l : List Oper} (h0 : ops[0]? = some o) (hgd : o.guard = none) (hl : ∀ j, l[j]? = ops[1 + j]?) (hn : ops.size = 1 + l.length)
    (hrun : (execOp a.eval o).run P w = .ok .recover w) (hrec : recoverD cs = some (v, cs') ∨ (recoverD cs = none ∧ v = .nilIface ∧ cs' = cs))
    (h : wpList P ops (Exit.then (fun a w => y.wp P (fun e a w => Q e a cs' w) a w) (fun e a w => Q e a cs' w)) l (a.put o.dst v) w) :
    (Code.seq (Code.region id ops false) y).wpS P Q a cs w := by
  apply wpS_seq
  intro b k hb hro
  rw [← wpOps_eq_wpList l 1 hl] at h
  obtain ⟨e, a', w', hq, harr⟩ := wp_ops (List.range' 1 l.length) _ _ h b k cs'
  have hQ : Exit.thenS (y.wpS P Q) Q e a' cs' w' := by
    cases e with
    | normal => exact wpS_of_wp hq
    | exit id => exact hq
    | goto l => exact hq
    | ret => exact hq
    | panic ch => exact hq
    | outgrown => exact hq
  refine ⟨e, a', cs', w', hQ, .of_steps (.head step_region (.one ?_)) harr⟩
  have hrg : List.range ops.size = 0 :: List.range' 1 l.length := by rw [hn, List.range_eq_range', Nat.add_comm, List.range'_succ]
  rw [hrg]
  have hw : Region.wanted o (yielded ops a.tmps) = true := by simp [Region.wanted, hgd]
  have hg := stepG_op (P := P) (b := b) (k := k) (cs := cs) (w := w) (rest := List.range' 1 l.length) h0 hw
  have hfin : ∀ v, (b.at a (.inRegion ops (0 :: List.range' 1 l.length) :: k)).finish v = b.at (a.put o.dst v) (.inRegion ops (List.range' 1 l.length) :: k) := by
    intro v; rw [Frame.finish_at, h0]; rfl
  have hk : (b.at a (.inRegion ops (0 :: List.range' 1 l.length) :: k)).kind = .deferred := hb
  have htr := tryRecover_deferred hk cs
  refine step_lone_go ?_
  rw [hg, ← hfin]
  simp only [Frame.at] at htr ⊢
  rcases hrec with hrec | ⟨hrec, rfl, rfl⟩
  · simp [stepG.apply, hrun, htr, hrec]
  · simp [stepG.apply, hrun, htr, hrec]

theorem wpS_recover_lit {id : Nat} {y : Code} {l : List Oper} (hgd : o.guard = none) (hrun : (execOp a.eval o).run P w = .ok .recover w)
    (hrec : recoverD cs = some (v, cs') ∨ (recoverD cs = none ∧ v = .nilIface ∧ cs' = cs))
    (h : wpList P (o :: l).toArray (Exit.then (fun a w => y.wp P (fun e a w => Q e a cs' w) a w) (fun e a w => Q e a cs' w)) l (a.put o.dst v) w) :
    (Code.seq (Code.region id (o :: l).toArray false) y).wpS P Q a cs w :=
  wpS_recover_seq (o := o) (l := l) (by simp) hgd (fun j => by simp [Nat.add_comm]) (by simp [Nat.add_comm]) hrun hrec h
end
end Go.Proofs.Ytjohikekhgcepaa
