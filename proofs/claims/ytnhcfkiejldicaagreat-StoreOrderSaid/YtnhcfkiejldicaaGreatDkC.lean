/- A disk's map of sectors: what it reads as; a look-up, a store, a delete. -/
import Derived.Test.YtnhcfkiejldicaaGreatDkB
import Derived.Maps.OwnSet
namespace Go.Proofs.YtnhcfkiejldicaaGreat
open Go.RowKit Go.Maps

abbrev H2 := Row × Row

theorem keyed3 : Keyed Tryz.prog 3 := int_keyed uInt

def kl (i : Nat) : Lit := .int .i64 i
theorem kl_inj {i j : Nat} (h : kl i = kl j) : i = j := by
  unfold kl at h
  injection h with _ h
  exact Int.ofNat.inj h

/-- Block m is a map of at most n entries: under i it has f i; its keys are below cnt. -/
def MapIs (w : World) (m n cnt : Nat) (f : Nat → Row × Row) : Prop :=
  ∃ D : DataW H2, w.ownsMap Tryz.prog 3 RS m n D ∧ (∀ i, D.atKey (kl i) (.held (zrow, zrow)) = .held (f i)) ∧ ∀ k, Maps.has D k = true → ∃ i, i < cnt ∧ k = kl i

def upd {α : Type} (f : Nat → α) (i : Nat) (x : α) : Nat → α := fun j => if j = i then x else f j
@[simp] theorem upd_same {α : Type} (f : Nat → α) (i : Nat) (x : α) : upd f i x i = x := by simp [upd]
theorem upd_ne {α : Type} (f : Nat → α) {i j : Nat} (x : α) (h : j ≠ i) : upd f i x j = f j := by simp [upd, h]

theorem MapIs.made (w : World) (cnt : Nat) : MapIs (w.alloc (.map #[] 0)) w.heap.size 0 cnt fun _ => (zrow, zrow) :=
  ⟨.map [], World.ownsMap_made _ _ _ _, fun i => by simp [DataW.atKey], fun k h => by simp [Maps.has] at h⟩

theorem MapIs.lt {w : World} {m n cnt : Nat} {f} (h : MapIs w m n cnt f) : m < w.heap.size := by
  obtain ⟨D, ho, _⟩ := h
  exact ho.lt

theorem MapIs.mono {w : World} {m n n' cnt : Nat} {f} (h : MapIs w m n cnt f) (hn : n ≤ n') : MapIs w m n' cnt f := by
  obtain ⟨D, ho, r⟩ := h
  exact ⟨D, ho.mono hn, r⟩

theorem MapIs.block {w w' : World} {m n cnt : Nat} {f} (h : MapIs w m n cnt f) (hb : w'.heap[m]? = w.heap[m]?) : MapIs w' m n cnt f := by
  obtain ⟨D, ⟨es, clock, h1, h2⟩, r⟩ := h
  exact ⟨D, ⟨es, clock, hb.trans h1, h2⟩, r⟩

theorem MapIs.keep {w w' : World} {m n cnt : Nat} {f} {S : List Nat} (h : MapIs w m n cnt f) (k : Keeps S w w') (hm : m ∉ S) : MapIs w' m n cnt f :=
  h.block (k.block m h.lt hm)

theorem key_of (i : Nat) (hi : i ≤ 9223372036854775807) : keyOf Tryz.prog 3 (.int .i64 i) = some (kl i) :=
  keyOf_int_mk uInt (WalkArith.wf_i64 (by omega))

set_option maxRecDepth 100000 in
theorem MapIs.look {w : World} {m n cnt : Nat} {f} (h : MapIs w m n cnt f) (i : Nat) (hi : i ≤ 9223372036854775807) :
    (Instr.lookup 76 (.map (some m)) (.int .i64 i) false).run Tryz.prog w = .ok (secV (f i).1 (f i).2) w := by
  obtain ⟨D, ho, hr, _⟩ := h
  obtain ⟨v, ps, hrun, hv⟩ := ho.lookup keyed3 uMap (zeroSec w) (RS_sec zrow zrow) (key_of i hi)
  obtain ⟨a, b, rfl, hz⟩ := RS_inv hv
  rw [hr i] at hz
  injection hz with hz _
  injection hz with hz
  rw [hrun, hz]

theorem MapIs.store {w : World} {m n cnt : Nat} {f} (h : MapIs w m n cnt f) (i : Nat) (hi : i < cnt) (hc : cnt ≤ 9223372036854775807) (hn : n < 140737488351232) (a b : Row) :
    ∃ w', (Instr.mapUpdate 76 (.map (some m)) (.int .i64 i) (secV a b)).run Tryz.prog w = .ok () w' ∧ MapIs w' m (n + 1) cnt (upd f i (a, b)) ∧ Keeps [m] w w' := by
  obtain ⟨D, ho, hr, hk⟩ := h
  obtain ⟨w', hrun, ho', hg⟩ := ho.update keyed3 uMap (by unfold maxLen; omega) (key_of i (by omega)) (RS_sec a b)
  refine ⟨w', hrun, ⟨_, ho', fun j => ?_, fun k hk' => ?_⟩, (Keeps.refl _ _).grown hg fun k hk => Or.inl (by injection hk with hk; simp [hk])⟩
  · by_cases e : j = i
    · subst e
      rw [upd_same]
      exact atKey_put_same (k := kl j) ho.isMap trivial _ _
    · rw [upd_ne _ _ e, ← hr j]
      exact atKey_put_other (fun e' => e (kl_inj e')) _ _
  · by_cases e : k = kl i
    · exact ⟨i, hi, e⟩
    · rw [has_put_other e] at hk'
      exact hk k hk'

theorem MapIs.drop {w : World} {m n cnt : Nat} {f} (h : MapIs w m n cnt f) (i : Nat) (hi : i ≤ 9223372036854775807) (ty : TypeId) :
    ∃ w', (Builtin.delete_ #[76, 3] ty #[.map (some m), .int .i64 i]).run Tryz.prog w = .ok (.tuple #[]) w' ∧ MapIs w' m n cnt (upd f i (zrow, zrow)) ∧ Keeps [m] w w' := by
  obtain ⟨D, ho, hr, hk⟩ := h
  obtain ⟨w', hrun, ho', ht⟩ := ho.drop keyed3 uMap (key_of i hi) ty
  refine ⟨w', hrun, ⟨_, ho', fun j => ?_, fun k hk' => ?_⟩, (Keeps.refl _ _).grown ht.grown fun k hk => Or.inl (by injection hk with hk; simp [hk])⟩
  · by_cases e : j = i
    · subst e
      rw [upd_same]
      exact atKey_del_same _
    · rw [upd_ne _ _ e, ← hr j]
      exact atKey_del_other (fun e' => e (kl_inj e')) _
  · by_cases e : k = kl i
    · rw [e, has_del_same] at hk'
      cases hk'
    · rw [has_del_other e] at hk'
      exact hk k hk'

section
variable {ops : Array Oper} {rest : List Oper} {o : Oper} {a : Act} {w : World} {Q : Exit → Act → World → Prop}

theorem wpList_look (hg : o.guard = none) (x y : Operand) (ho : o.op = .lookup 76 x y false) (m n cnt : Nat) (f : Nat → Row × Row) (h : MapIs w m n cnt f) (hx : a.eval x = .map (some m)) (i : Nat) (hi : i ≤ 9223372036854775807) (hy : a.eval y = .int .i64 i)
    (hK : wpList Tryz.prog ops Q rest (a.put o.dst (secV (f i).1 (f i).2)) w) : wpList Tryz.prog ops Q (o :: rest) a w := by
  refine wpList_is hg _ _ ?_ hK
  simp only [execOp, ho, hx, hy, Sem.run_bind, h.look i hi, Result.andThen_ok, Sem.run_pure]

theorem wpList_mdrop (hg : o.guard = none) (x y : Operand) (ho : o.op = .call { callee := .builtin .delete, args := #[x, y], argTypes := #[76, 3] }) (m n cnt : Nat) (f : Nat → Row × Row) (h : MapIs w m n cnt f) (hx : a.eval x = .map (some m)) (i : Nat) (hi : i ≤ 9223372036854775807) (hy : a.eval y = .int .i64 i)
    (hK : ∀ w', Hid (MapIs w' m n cnt (upd f i (zrow, zrow))) → Hid (Keeps [m] w w') → wpList Tryz.prog ops Q rest (a.put o.dst (.tuple #[])) w') : wpList Tryz.prog ops Q (o :: rest) a w := by
  obtain ⟨w', hrun, h1, h2⟩ := h.drop i hi o.type
  refine wpList_is hg _ w' ?_ (hK w' h1 h2)
  simp [execOp, ho, resolve, invoke, builtin, hx, hy, hrun, Result.andThen]
end

theorem wp_mstore {o : Oper} {a : Act} {w : World} {K : Act → World → Prop} {Q : Exit → Act → World → Prop} (x y z : Operand) (ho : o.op = .mapUpdate 76 x y z) (m n cnt : Nat) (f : Nat → Row × Row) (h : MapIs w m n cnt f) (hx : a.eval x = .map (some m)) (i : Nat) (hi : i < cnt) (hc : cnt ≤ 9223372036854775807) (hn : n < 140737488351232) (hy : a.eval y = .int .i64 i) (r s : Row) (hz : a.eval z = secV r s)
    (hK : ∀ w', Hid (MapIs w' m (n + 1) cnt (upd f i (r, s))) → Hid (Keeps [m] w w') → K (a.put o.dst undef) w') : o.wp Tryz.prog a w K Q := by
  obtain ⟨w', hrun, h1, h2⟩ := h.store i hi hc hn r s
  unfold Oper.wp execOp
  simp only [ho, hx, hy, hz, Sem.run_bind, hrun, Result.andThen_ok, Sem.run_pure]
  exact hK w' h1 h2

end Go.Proofs.YtnhcfkiejldicaaGreat
