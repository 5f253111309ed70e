/- Image: all sectors as last written. -/
import Derived.Test.YtiljhjegfklgmaaGreatDkM
namespace Go.Proofs.YtiljhjegfklgmaaGreat
open Go.RowKit Go.Shelf
attribute [local go_sem] Oper.semAt_some

def imageL (f : Nat → Row) (n : Nat) : List Int := (List.range n).flatMap fun i => (f i).1
theorem imageL_len (f : Nat → Row) (n : Nat) : (imageL f n).length = n * 64 := by
  unfold imageL
  induction n with
  | zero => rfl
  | succ n ih => rw [List.range_succ, List.flatMap_append, List.length_append, ih]; simp [(f n).2.1]; omega
theorem imageL_byte (f : Nat → Row) (n : Nat) : ∀ z ∈ imageL f n, 0 ≤ z ∧ z ≤ 255 := by
  intro z hz
  simp only [imageL, List.mem_flatMap] at hz
  obtain ⟨i, _, hz⟩ := hz
  exact (f i).2.2 z hz

section
variable {F : Fence} {n : Nat} {ops : Array Oper} {rest : List Oper} {o : Oper} {a : Act} {w : World} {Q : Exit → Act → World → Prop}
theorem wpListIn_look (hgd : o.guard = none) (x y : Operand) (ho : o.op = .lookup 90 x y false) (m k cnt : Nat) (f : Nat → Row × Row) (h : MapIs w m k cnt f) (hx : a.eval x = .map (some m)) (i : Nat) (hi : i ≤ 9223372036854775807) (hy : a.eval y = .int .i64 i)
    (hK : wpListIn F n Tryz.prog ops Q rest (a.put o.dst (secV (f i).1 (f i).2)) w) : wpListIn F n Tryz.prog ops Q (o :: rest) a w :=
  wpListIn_is hgd (by simp [noDefer, ho]) (fun w => by simp [Oper.about, ho]) _ _ (exec_look x y ho hx hy (h.look i hi)) hK

theorem wpListIn_fieldNow (hgd : o.guard = none) (x : Operand) (ho : o.op = .field 103 x 0) (r s : Row) (hx : a.eval x = secV r s)
    (hK : wpListIn F n Tryz.prog ops Q rest (a.put o.dst (rowV r)) w) : wpListIn F n Tryz.prog ops Q (o :: rest) a w :=
  wpListIn_is hgd (by simp [noDefer, ho]) (fun w => by simp [Oper.about, ho]) _ _ (exec_fieldNow x ho hx) hK
end

theorem rows_any (w : World) (p : Nat) :
    Calls Tryz.prog 50 #[.pointer (some ⟨p, 0, none⟩)] w fun e w' => e = .returned (.func (.func 70) #[] #[.pointer (some ⟨w.heap.size, 0, none⟩)]) ∧ w.alloc (.cells #[.pointer (some ⟨p, 0, none⟩)] 25) = w' := by
  go_enter Tryz.func50, Tryz.ntmps50
  go_wp2_with fail
  go_ret
  exact ⟨rfl, rfl⟩

set_option maxRecDepth 100000 in
set_option maxHeartbeats 4000000 in
theorem rows1_in (n : Nat) (hn : 1 ≤ n) (l Bd p m nn n₀ cnt : Nat) (f : Nat → Row × Row) (hcnt : cnt ≤ 4160) (S : List Nat) (J Jx : List Row → World → Prop) (W : World)
    (hY : ∀ pre x W, J pre W → pre.length < cnt → YieldAt Fence.wide (n - 1) Tryz.prog l #[rowV x] W fun e W' =>
      (e = .returned (.bool true) ∧ J (pre ++ [x]) W' ∧ KpS S n₀ W W') ∨ (e = .returned (.bool false) ∧ Jx (pre ++ [x]) W'))
    (hBd : W.cell? ⟨Bd, 0, none⟩ = some (.pointer (some ⟨p, 0, none⟩))) (c0 : W.cell? ⟨p, 0, none⟩ = some (.int .i64 cnt)) (c1 : W.cell? ⟨p, 1, none⟩ = some (.map (some m))) (hM : MapIs W m nn cnt f)
    (bd : Bd < n₀ ∧ Bd ∉ S) (bp : p < n₀ ∧ p ∉ S) (bm : m < n₀ ∧ m ∉ S) (h0 : J [] W) :
    CallsIn Fence.wide n Tryz.prog 70 #[.func (.yield l) #[] #[], .pointer (some ⟨Bd, 0, none⟩)] W fun e W' => (∃ v, e = .returned v) ∧
      ((∃ ys, ys = (List.range cnt).map (fun i => (f i).1) ∧ J ys W') ∨ (∃ pre, True ∧ Jx pre W')) := by
  refine callsIn_of_wp Tryz.func70 rfl trivial ?_ rfl
  simp only [Tryz.ntmps70, List.size_toArray, List.length_cons, List.length_nil, Nat.reduceAdd, Nat.reduceSub, Array.replicate_succ, Array.replicate_zero, List.push_toArray, List.append_toArray, List.nil_append, List.cons_append]
  have HY := hid hY
  have HM := hid hM
  have H0 := hid h0
  clear hY hM h0
  gi_wp2
  gi_loopw [8] (fun i wr => ∃ k : Nat, k ≤ cnt ∧ i = .int .i64 k ∧ J ((List.range k).map fun i => (f i).1) wr ∧ KpS S n₀ W wr)
    (fun i _ => cnt - (intOf i).toNat)
  case atStart => exact ⟨0, Nat.zero_le _, rfl, H0.out, KpS.refl _ _ _⟩
  case round =>
    obtain ⟨k, hk, rfl, hJs, hnx⟩ := hrel
    have HJ := hid hJs
    have HN := hid hnx
    by_cases hlt : k < cnt
    · have cb := hnx.cell hBd bd.1 bd.2
      have cp := hnx.cell c1 bp.1 bp.2
      have HMr := hid (HM.out.block (hnx.block m bm.1 bm.2))
      obtain ⟨fn, tmps, assign, body, hy, hR⟩ := HY.out _ (f k).1 wr HJ.out (by simpa using hlt)
      have HR := hid hR
      clear hR hJs hnx
      gi_wp2_with (first | (refine wpListIn_look rfl _ _ rfl m nn cnt f HMr.out rfl k (by omega) rfl ?_) | (refine wpListIn_fieldNow rfl _ rfl _ _ rfl ?_) | fail)
      refine HR.out.mono ?_
      rintro e W3 (⟨rfl, hJ3, hk3⟩ | ⟨rfl, hJx3⟩)
      · have HJ3 := hid hJ3
        have HK3 := hid hk3
        clear hJ3 hk3
        gi_wp2
        go_roundw
        case rel => exact ⟨k + 1, by omega, by simp, by rw [List.range_succ, List.map_append]; exact HJ3.out, HN.out.trans HK3.out⟩
        case measure => simp [intOf]; omega
      · have HJ3 := hid hJx3
        clear hJx3
        gi_wp2
        refine bodyPost_ret (results_none rfl _ _ _) rfl ?_
        exact ⟨⟨_, rfl⟩, .inr ⟨_, trivial, HJ3.out⟩⟩
    · have : k = cnt := by omega
      subst this
      clear hJs hnx
      gi_wp2
      go_end0
      exact ⟨⟨_, rfl⟩, .inl ⟨_, rfl, HJ.out⟩⟩

theorem rows_stops (n : Nat) (hn : 1 ≤ n) (Bd p m nn n₀ cnt : Nat) (f : Nat → Row × Row) (hcnt : cnt ≤ 4160) (S : List Nat) (w : World)
    (hBd : w.cell? ⟨Bd, 0, none⟩ = some (.pointer (some ⟨p, 0, none⟩))) (c0 : w.cell? ⟨p, 0, none⟩ = some (.int .i64 cnt)) (c1 : w.cell? ⟨p, 1, none⟩ = some (.map (some m))) (hM : MapIs w m nn cnt f)
    (bd : Bd < n₀ ∧ Bd ∉ S) (bp : p < n₀ ∧ p ∉ S) (bm : m < n₀ ∧ m ∉ S) :
    SeqStopsK Fence.wide n Tryz.prog 70 #[.pointer (some ⟨Bd, 0, none⟩)] (fun x : Row => #[rowV x]) (KpS S n₀) (fun ys => ys = (List.range cnt).map (fun i => (f i).1)) (fun _ => True) cnt w := fun l J Jx W hW _ _ hY h0 => by
  have K0 : KpS [] w.heap.size w W := KpS.below hW (Nat.le_refl _)
  exact rows1_in n hn l Bd p m nn n₀ cnt f hcnt S J Jx W hY (K0.cell hBd (World.block_lt_of_cell? w _ hBd) (by simp)) (K0.cell c0 (World.block_lt_of_cell? w _ c0) (by simp)) (K0.cell c1 (World.block_lt_of_cell? w _ c1) (by simp)) (hM.block (K0.block m hM.lt (by simp))) bd bp bm h0

end Go.Proofs.YtiljhjegfklgmaaGreat
