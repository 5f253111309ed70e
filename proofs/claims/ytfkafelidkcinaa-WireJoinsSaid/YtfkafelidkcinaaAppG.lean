/- The built-in append on a row of bytes, under a guard. -/
import Derived.Test.YtfkafelidkcinaaApp
namespace Go.Proofs.Ytfkafelidkcinaa
open Go.RowKit

/-- The same, of an operation under a guard that lets it be. -/
theorem wpList_append_guarded {P : Program} {w : World} {ops : Array Oper} {rest : List Oper} {o : Oper} {a : Act} {Q : Exit → Act → World → Prop} (hgd : Region.wanted o (yielded ops a.tmps) = true) (s x : Operand) (t : TypeId)
    (ho : o.op = .call { callee := .builtin .append, args := #[s, x], argTypes := #[t, t] })
    (B : Nat) (e : TypeId) (i : TypeInfo) (z : Value) (ht : P.underlying t = some (.slice e)) (hi : P.info? e = some i) (hz : i.zero = some z)
    (hsize : i.size = 1) (hby : i.bytes = 1) (hzs : z.cells.size = 1) (v : Value) (n : Nat) (xs : List Value) (hs : a.eval s = v) (hown : w.ownsRow B e 1 v n xs)
    (u : Value) (bs : List Int) (hx : a.eval x = u) (hr : RowAt w u bs) (hn : n + bs.length ≤ 70368744177664) (hbase : B ≤ w.heap.size)
    (h : ∀ a' c' w', Hid (w'.ownsRow B e 1 (.slice a' (n + bs.length) c') (n + bs.length) (xs ++ bs.map (Value.int .u8))) → Hid (w.grownBy w' v.ownBlock) → Hid (NewRow w v (.slice a' (n + bs.length) c')) → wpList P ops Q rest (a.put o.dst (.slice a' (n + bs.length) c')) w') :
    wpList P ops Q (o :: rest) a w := by
  refine wpList_step fun K hK => ?_
  rw [if_pos hgd]
  obtain ⟨ad, cap, rfl, h1, h2, h3, h4, h5⟩ := hr
  cases ad with
  | none =>
    obtain rfl := h3 rfl
    have hb : bs = [] := List.eq_nil_of_length_eq_zero (by omega)
    subst hb
    have hrun := run_append_owned_none (P := P) (w := w) B t o.type e i 1 ht hi v n xs hown
    unfold Oper.wp
    simp only [List.length_nil] at hx
    simp [execOp, ho, resolve, invoke, builtin, hs, hx, hrun, Result.andThen]
    obtain ⟨a', c', rfl⟩ := ownsRow_slice hown
    exact hK _ _ (h a' c' w (by simpa [Hid] using hown) ⟨rfl, rfl, rfl, Nat.le_refl _, fun _ _ _ => rfl⟩ (Or.inl rfl))
  | some ad =>
    obtain ⟨v', w', hrun, g1, g2, g3⟩ := run_append_new (P := P) w B t o.type e i z ht hi hz hsize hby hzs v n xs hown ad bs.length cap (bs.map (Value.int .u8)) (by simp) (h5 ad rfl) (by simp [Value.oneCell']) hn hbase
    unfold Oper.wp
    simp [execOp, ho, resolve, invoke, builtin, hs, hx, hrun, Result.andThen]
    obtain ⟨a', c', rfl⟩ := ownsRow_slice g1
    exact hK _ _ (h a' c' w' g1 g2 g3)

end Go.Proofs.Ytfkafelidkcinaa
