/- The reference's Fill and Holds. -/
import Derived.Test.YtoglcohdanpciaaPyRef
import Derived.Deep.RegionLaw
import Derived.Laws.AppendOwnNone
namespace Go.Proofs.Ytoglcohdanpciaa
open Go.RowKit Go.Shelf

section
variable {P : Program}

/-- append of whatever row of single cells, nil or not, onto a row of the call's own. -/
theorem run_append_src (w : World) (B : Nat) (t ty e : TypeId) (i : TypeInfo) (z : Value) (bytes : Nat) (ht : P.underlying t = some (.slice e)) (hi : P.info? e = some i) (hz : i.zero = some z)
    (hsize : i.size = 1) (hby : i.bytes = bytes) (hzs : z.cells.size = 1) (v : Value) (n : Nat) (xs : List Value) (hown : w.ownsRow B e 1 v n xs)
    (A : Option Addr) (m c : Nat) (news : List Value) (hl : news.length = m) (hA : A = none → c = 0) (hmc : m ≤ c) (hnews : ∀ ad, A = some ad → ∀ j u, news[j]? = some u → w.cell? (ad.add j) = some u) (h1 : ∀ u ∈ news, u.oneCell' = true)
    (hn : n + m ≤ maxLen) (hb : (n + m) * bytes ≤ 140737488355328) (hbase : B ≤ w.heap.size) :
    ∃ a' c' w', (Builtin.append_ #[t, t] ty #[v, .slice A m c]).run P w = .ok (.slice a' (n + m) c') w' ∧ w'.ownsRow B e 1 (.slice a' (n + m) c') (n + m) (xs ++ news) ∧ w.grownBy w' v.ownBlock := by
  cases A with
  | none =>
    obtain rfl := hA rfl
    obtain rfl : m = 0 := by omega
    have hb : news = [] := List.eq_nil_of_length_eq_zero hl
    subst hb
    have hrun := run_append_owned_none (P := P) (w := w) B t ty e i 1 ht hi v n xs hown
    obtain ⟨a', c', rfl⟩ := ownsRow_slice hown
    refine ⟨a', c', w, ?_, by simpa using hown, ⟨rfl, rfl, rfl, Nat.le_refl _, fun _ _ _ => rfl⟩⟩
    simpa using hrun
  | some ad =>
    obtain ⟨v', w', hrun, g1, g2, _⟩ := run_append_own (P := P) w B t ty e i z 1 bytes ht hi hz hsize hby hzs (by omega) v n xs hown ad m c news (by omega) (hnews ad rfl) h1 hn hb hbase
    obtain ⟨a', c', rfl⟩ := ownsRow_slice g1
    exact ⟨a', c', w', hrun, g1, g2⟩

theorem step_append_src {ops : Array Oper} {o : Oper} {a : Act} {w : World} {K : Act → World → Prop} {Q : Exit → Act → World → Prop} {E : Prop} (hgd : o.guard = none) (s x : Operand) (t : TypeId)
    (ho : o.op = .call { callee := .builtin .append, args := #[s, x], argTypes := #[t, t] })
    (B : Nat) (e : TypeId) (i : TypeInfo) (z : Value) (bytes : Nat) (ht : P.underlying t = some (.slice e)) (hi : P.info? e = some i) (hz : i.zero = some z)
    (hsize : i.size = 1) (hby : i.bytes = bytes) (hzs : z.cells.size = 1) (v : Value) (n : Nat) (xs : List Value) (hs : a.eval s = v) (hown : w.ownsRow B e 1 v n xs)
    (A : Option Addr) (m c : Nat) (news : List Value) (hx : a.eval x = .slice A m c) (hl : news.length = m) (hA : A = none → c = 0) (hmc : m ≤ c) (hnews : ∀ ad, A = some ad → ∀ j u, news[j]? = some u → w.cell? (ad.add j) = some u)
    (h1 : ∀ u ∈ news, u.oneCell' = true) (hn : n + m ≤ maxLen) (hb : (n + m) * bytes ≤ 140737488355328) (hbase : B ≤ w.heap.size)
    (h : ∀ a' c' w', Hid (w'.ownsRow B e 1 (.slice a' (n + m) c') (n + m) (xs ++ news)) → Hid (w.grownBy w' v.ownBlock) → K (a.put o.dst (.slice a' (n + m) c')) w') :
    if Region.wanted o (yielded ops a.tmps) = true then Oper.wp P o a w K Q else E := by
  have hw : Region.wanted o (yielded ops a.tmps) = true := by simp [Region.wanted, hgd]
  rw [if_pos hw]
  obtain ⟨a', c', w', hrun, g1, g2⟩ := run_append_src (P := P) w B t o.type e i z bytes ht hi hz hsize hby hzs v n xs hown A m c news hl hA hmc hnews h1 hn hb hbase
  unfold Oper.wp execOp
  simp only [ho, resolve, invoke, builtin, Sem.run_bind, Sem.run_pure, Result.andThen_ok, List.map_toArray, List.map_cons, List.map_nil, hs, hx, hrun]
  exact h a' c' w' g1 g2
end

theorem rows_elem : Try.prog.underlying 26 = some (.slice (Try.prog.elem 26)) := by kernel_rfl
theorem rows_el : Try.prog.elem 26 = 34 := by kernel_rfl
theorem info25 : (Try.prog.info? 34).map (fun i => (i.zero, i.size, i.bytes)) = some (some (.slice none 0 0), 1, 24) := by kernel_rfl
theorem size_row (W : World) : (sizeOf 34).run Try.prog W = .ok 1 W := by
  obtain ⟨i0, hi, hz0, hz1, hz2⟩ := info_parts info25
  simp [sizeOf, typeInfo, hi, hz1, Result.andThen]

/-- The first n rows. -/
theorem rows_take {w0 w : World} {a : Option Addr} {len cap : Nat} {rs : List (El w0)} (h : RowsAt w (.slice a len cap) rs) (n : Nat) (hn : n ≤ rs.length) :
    ∃ a1, (∀ W, (Instr.sliceAt 26 (.slice a len cap) none (some (.int .i64 (n : Int))) none).run Try.prog W = .ok (.slice a1 n cap) W) ∧
      (∀ W, (Instr.slice 26 (.slice a len cap) none (some (.int .i64 (n : Int))) none).run Try.prog W = .ok (.slice a1 n cap) W) ∧
      (∀ W, RowsAt W (.slice a len cap) rs → RowsAt W (.slice a1 n cap) (rs.take n)) := by
  obtain ⟨a', cap', hv, h1, h2, h3, h5⟩ := h
  injection hv with e1 e2 e3
  subst e1; subst e2; subst e3
  have hrun : ∀ W, (Instr.slice 26 (.slice a rs.length cap) none (some (.int .i64 (n : Int))) none).run Try.prog W = .ok (.slice (if cap = 0 then a else a.map (·.add 0)) n cap) W := by
    intro W
    rw [run_slice_h W 26 a rs.length cap rows_elem .i64 n (by omega) (by omega), rows_el, size_row]
    simp [Result.andThen, sliced]
  have hadd : ∀ ad : Addr, ad.add 0 = ad := fun ad => by unfold Addr.add; split <;> simp_all
  have ha : (if cap = 0 then a else a.map (·.add 0)) = a := by
    split
    · rfl
    · cases a <;> simp [hadd]
  rw [ha] at hrun
  refine ⟨a, fun W => by rw [run_sliceAt_slice W 26 _ _ _ _ rows_elem]; exact hrun W, hrun, ?_⟩
  rintro W ⟨a', cap', hv, g1, g2, g3, g5⟩
  injection hv with e1 e2 e3
  subst e1; subst e3
  refine ⟨a, cap, by rw [List.length_take, Nat.min_eq_left hn], by rw [List.length_take]; omega, g2, g3, fun ad had j u hu => g5 ad had j u ?_⟩
  rw [List.map_take, List.getElem?_take] at hu
  split at hu
  · exact hu
  · cases hu

/-- What is behind them. -/
theorem rows_drop {w0 w : World} {a : Option Addr} {len cap : Nat} {rs : List (El w0)} (h : RowsAt w (.slice a len cap) rs) (n : Nat) (hn : n ≤ rs.length) :
    ∃ a1, (∀ W, (Instr.sliceAt 26 (.slice a len cap) (some (.int .i64 (n : Int))) none none).run Try.prog W = .ok (.slice a1 (rs.length - n) (cap - n)) W) ∧
      (∀ W, (Instr.slice 26 (.slice a len cap) (some (.int .i64 (n : Int))) none none).run Try.prog W = .ok (.slice a1 (rs.length - n) (cap - n)) W) ∧
      (∀ W, RowsAt W (.slice a len cap) rs → RowsAt W (.slice a1 (rs.length - n) (cap - n)) (rs.drop n)) := by
  obtain ⟨a', cap', hv, h1, h2, h3, h5⟩ := h
  injection hv with e1 e2 e3
  subst e1; subst e2; subst e3
  have hrun : ∀ W, (Instr.slice 26 (.slice a rs.length cap) (some (.int .i64 (n : Int))) none none).run Try.prog W = .ok (.slice (if cap = n then a else a.map (·.add n)) (rs.length - n) (cap - n)) W := by
    intro W
    rw [run_slice_l W 26 a rs.length cap rows_elem .i64 n (by omega) (by omega), rows_el, size_row]
    simp [Result.andThen, sliced]
  refine ⟨_, fun W => by rw [run_sliceAt_slice W 26 _ _ _ _ rows_elem]; exact hrun W, hrun, ?_⟩
  rintro W ⟨a', cap', hv, g1, g2, g3, g5⟩
  injection hv with e1 e2 e3
  subst e1; subst e3
  refine ⟨_, cap - n, by rw [List.length_drop], by rw [List.length_drop]; omega, by omega, ?_, ?_⟩
  · split
    · intro _; omega
    · cases a with
      | none => intro _; have := g3 rfl; omega
      | some ad => simp
  · intro ad had j u hu
    have hj : n + j < rs.length := by
      have := (List.getElem?_eq_some_iff.1 hu).1
      simp at this; omega
    rw [if_neg (by omega)] at had
    cases a with
    | none => simp at had
    | some ad0 =>
      simp at had
      subst had
      have e : (ad0.add n).add j = ad0.add (n + j) := by
        have hc := g5 ad0 rfl 0 rs[0].1.1 (by simp [List.getElem?_eq_getElem (show 0 < rs.length by omega)])
        cases hsp : ad0.spot with
        | none =>
          obtain ⟨b0, o0, s0⟩ := ad0
          simp only at hsp
          subst hsp
          rw [Addr.add_lit, Addr.add_lit, Addr.add_lit, Nat.add_assoc]
        | some x =>
          exfalso
          unfold Addr.add at hc
          simp [hsp, World.cell?] at hc
          split at hc <;> simp_all
      rw [e]
      refine g5 ad0 rfl (n + j) u ?_
      rw [← hu, List.map_drop, List.getElem?_drop]

end Go.Proofs.Ytoglcohdanpciaa
