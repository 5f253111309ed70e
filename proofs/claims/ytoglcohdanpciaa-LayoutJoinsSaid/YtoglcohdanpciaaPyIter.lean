/- The iterators over rows: slices.Values, parity's allBut. -/
import Derived.RangeFuncNested
import Derived.RangeFuncBound
import Derived.RangeFuncCalls
import Derived.RangeFuncLeaves
import Derived.Shelf.Abstract
import Derived.Shelf.RegionOpen
import Derived.WalkKit
import Derived.OwnWalkIn
import Derived.TacticsInMore
import Derived.LoopNIn
import Derived.LoopIn
import Derived.Test.YtoglcohdanpciaaPyMix
namespace Go.Proofs.Ytoglcohdanpciaa
open Go.RowKit Go.Shelf
attribute [local go_sem] Oper.semAt_some

/-- A row of bytes as it came: its value and what it holds. -/
abbrev Rw := Value × List Int
def RwOk (w : World) (r : Rw) : Prop := RowAt w r.1 r.2 ∧ r.2.length ≤ 140737488351232
abbrev El (w : World) := { r : Rw // RwOk w r }
def raws {w : World} (rs : List (El w)) : List (List Int) := rs.map fun r => r.1.2

/-- A slice of rows. -/
def RowsAt {w0 : World} (w : World) (v : Value) (rs : List (El w0)) : Prop :=
  ∃ (a : Option Addr) (cap : Nat), v = .slice a rs.length cap ∧ rs.length ≤ cap ∧ cap ≤ maxLen ∧ (a = none → cap = 0) ∧
    ∀ ad, a = some ad → ∀ j u, (rs.map fun r => r.1.1)[j]? = some u → w.cell? (ad.add j) = some u

theorem RowsAt.open {w0 w : World} {v : Value} {rs : List (El w0)} (h : RowsAt w v rs) (hne : 0 < rs.length) :
    ∃ g off cap, v = .slice (some ⟨g, off, none⟩) rs.length cap ∧ rs.length ≤ cap ∧ ∀ j (hj : j < rs.length), w.cell? ⟨g, off + j, none⟩ = some rs[j].1.1 := by
  obtain ⟨a, cap, rfl, h1, h2, h3, h5⟩ := h
  cases a with
  | none => have := h3 rfl; omega
  | some ad =>
    obtain ⟨g, off, sp⟩ := ad
    have hc := h5 _ rfl 0 rs[0].1.1 (by simp [List.getElem?_eq_getElem hne])
    cases sp with
    | some x =>
      exfalso
      unfold Addr.add at hc
      simp [World.cell?] at hc
      split at hc <;> simp_all
    | none =>
      refine ⟨g, off, cap, rfl, h1, fun j hj => ?_⟩
      have := h5 _ rfl j rs[j].1.1 (by simp [List.getElem?_eq_getElem hj])
      rwa [Addr.add_lit] at this

theorem RowsAt.keep {w0 w w' : World} {v : Value} {rs : List (El w0)} (h : RowsAt w v rs) (k : Keeps [] w w') : RowsAt w' v rs := by
  obtain ⟨a, cap, rfl, h1, h2, h3, h5⟩ := h
  refine ⟨a, cap, rfl, h1, h2, h3, fun ad had j u hu => ?_⟩
  have hc := h5 ad had j u hu
  rw [World.cell?_of_block (w := w) (k.block _ (World.block_lt_of_cell? _ _ hc) (by simp))]
  exact hc

set_option maxRecDepth 100000 in
set_option maxHeartbeats 2000000 in
theorem values1_in (n : Nat) (hn : 1 ≤ n) (l Bs n₀ b off cap : Nat) {w0 : World} (rs : List (El w0)) (hreach : rs.length ≤ 1099511627776) (hb : b < n₀) (J Jx : List (El w0) → World → Prop)
    (hY : ∀ pre x W, J pre W → pre.length < rs.length → YieldAt Fence.wide (n - 1) Try.prog l #[x.1.1] W fun e W' =>
      (e = .returned (.bool true) ∧ J (pre ++ [x]) W' ∧ Below n₀ W W') ∨ (e = .returned (.bool false) ∧ Jx (pre ++ [x]) W'))
    (W : World) (hBs : W.cell? ⟨Bs, 0, none⟩ = some (.slice (some ⟨b, off, none⟩) rs.length cap)) (hc : ∀ j (hj : j < rs.length), W.cell? ⟨b, off + j, none⟩ = some rs[j].1.1) (h0 : J [] W) :
    CallsIn Fence.wide n Try.prog 154 #[.func (.yield l) #[] #[], .pointer (some ⟨Bs, 0, none⟩)] W fun e W' => (∃ v, e = .returned v) ∧
      ((∃ ys, ys = rs ∧ J ys W') ∨ (∃ pre, True ∧ Jx pre W')) := by
  refine callsIn_of_wp Try.func154 rfl trivial ?_ rfl
  simp only [Try.ntmps154, List.size_toArray, List.length_cons, List.length_nil, Nat.reduceAdd, Nat.reduceSub, Array.replicate_succ, Array.replicate_zero, List.push_toArray, List.append_toArray, List.nil_append, List.cons_append]
  have HC := hid hc
  have HY := hid hY
  clear hc hY
  gi_wp2
  gi_loopw [7] (fun i wr => ∃ k : Nat, k ≤ rs.length ∧ i = .int .i64 k ∧ J (rs.take k) wr ∧ Below n₀ W wr)
    (fun i _ => rs.length - (intOf i).toNat)
  case atStart => exact ⟨0, Nat.zero_le _, rfl, h0, Below.refl _ _⟩
  case round =>
    obtain ⟨k, hk, rfl, hJs, hnx⟩ := hrel
    have HJ := hid hJs
    have HN := hid hnx
    clear hJs hnx
    by_cases hlt : k < rs.length
    · have hcx : wr.cell? ⟨b, off + k, none⟩ = some rs[k].1.1 := (HN.out.cell (p := ⟨b, off + k, none⟩) hb).trans (HC.out k hlt)
      obtain ⟨fn, tmps, assign, body, hy, hR⟩ := HY.out _ rs[k] wr HJ.out (by rw [List.length_take]; omega)
      have HT := hid (List.take_succ_eq_append_getElem hlt)
      generalize rs[k] = x at *
      obtain ⟨⟨u, zs⟩, hx⟩ := x
      dsimp only at hy hcx
      have HR := hid hR
      clear hR
      gi_wp2
      refine HR.out.mono ?_
      rintro e W3 (⟨rfl, hJ3, hk3⟩ | ⟨rfl, hJx3⟩)
      · have HJ3 := hid hJ3
        have HK3 := hid hk3
        clear hJ3 hk3
        gi_wp2
        go_roundw
        case rel => exact ⟨k + 1, by omega, by simp, by rw [HT.out]; exact HJ3.out, HN.out.trans HK3.out⟩
        case measure => simp [intOf]; omega
      · have HJ3 := hid hJx3
        clear hJx3
        gi_wp2
        refine bodyPost_ret (results_none rfl _ _ _) rfl ?_
        exact ⟨⟨_, rfl⟩, .inr ⟨_, trivial, HJ3.out⟩⟩
    · have : k = rs.length := by omega
      subst this
      rw [List.take_length] at HJ
      gi_wp2
      go_end0
      exact ⟨⟨_, rfl⟩, .inl ⟨_, rfl, HJ.out⟩⟩

set_option maxRecDepth 100000 in
set_option maxHeartbeats 1000000 in
theorem values1_nil_in (n : Nat) (l Bs : Nat) (a : Option Addr) (cap : Nat) {w0 : World} (J : List (El w0) → World → Prop) (W : World) (hBs : W.cell? ⟨Bs, 0, none⟩ = some (.slice a 0 cap)) (h0 : J [] W) :
    CallsIn Fence.wide n Try.prog 154 #[.func (.yield l) #[] #[], .pointer (some ⟨Bs, 0, none⟩)] W fun e W' => (∃ v, e = .returned v) ∧ J [] W' := by
  refine callsIn_of_wp Try.func154 rfl trivial ?_ rfl
  simp only [Try.ntmps154, List.size_toArray, List.length_cons, List.length_nil, Nat.reduceAdd, Nat.reduceSub, Array.replicate_succ, Array.replicate_zero, List.push_toArray, List.append_toArray, List.nil_append, List.cons_append]
  have HJ := hid h0
  clear h0
  gi_wp2
  gi_loopw [7] (fun i wr => i = .int .i64 0 ∧ wr = W) (fun _ _ => 0)
  case atStart => exact ⟨rfl, rfl⟩
  case round =>
    obtain ⟨rfl, rfl⟩ := hrel
    gi_wp2
    go_end0
    exact ⟨⟨_, rfl⟩, HJ.out⟩

set_option maxHeartbeats 1000000 in
theorem values_in (n : Nat) (a : Option Addr) (len cap : Nat) (w : World) :
    CallsIn Fence.wide n Try.prog 103 #[.slice a len cap] w fun e w' => e = .returned (.func (.func 154) #[] #[.pointer (some ⟨w.heap.size, 0, none⟩)]) ∧ w.alloc (.cells #[.slice a len cap] 26) = w' := by
  refine callsIn_of_wp Try.func103 rfl trivial ?_ rfl
  simp only [Try.ntmps103, List.size_toArray, List.length_cons, List.length_nil, Nat.reduceAdd, Nat.reduceSub, Array.replicate_succ, Array.replicate_zero, List.push_toArray, List.append_toArray, List.nil_append, List.cons_append]
  gi_wp2
  go_ret
  exact ⟨rfl, rfl⟩

theorem ret_int {k : IntKind} {a b : Int} (h : a = b) : Ending.returned (.int k a) = .returned (.int k b) := by rw [h]

/-- What has come of all but the i-th, k places on. -/
theorem but_same {α : Type} (l : List α) (i : Nat) (h : i < l.length) : (l.take (i + 1)).eraseIdx i = (l.take i).eraseIdx i := by
  have hl : (l.take i).length = i := by rw [List.length_take]; omega
  rw [List.take_succ_eq_append_getElem h, List.eraseIdx_append_of_length_le (by omega), hl, List.eraseIdx_of_length_le (l := l.take i) (by omega)]
  simp
theorem but_next {α : Type} (l : List α) (i k : Nat) (h : k < l.length) (hne : k ≠ i) : (l.take (k + 1)).eraseIdx i = (l.take k).eraseIdx i ++ [l[k]] := by
  rw [List.take_succ_eq_append_getElem h]
  by_cases hlt : i < k
  · rw [List.eraseIdx_append_of_lt_length (by rw [List.length_take]; omega)]
  · have hl : (l.take k).length = k := by rw [List.length_take]; omega
    rw [List.eraseIdx_of_length_le (by simp; omega), List.eraseIdx_of_length_le (by omega)]

set_option maxRecDepth 100000 in
set_option maxHeartbeats 4000000 in
theorem but1_in (n : Nat) (hn : 1 ≤ n) (l Bs Bi n₀ b off cap i : Nat) {w0 : World} (rs : List (El w0)) (hreach : rs.length ≤ 1099511627776) (hb : b < n₀) (hbi : Bi < n₀) (hi : i < rs.length) (J Jx : List (El w0) → World → Prop)
    (hY : ∀ pre x W, J pre W → pre.length < rs.length → YieldAt Fence.wide (n - 1) Try.prog l #[x.1.1] W fun e W' =>
      (e = .returned (.bool true) ∧ J (pre ++ [x]) W' ∧ Below n₀ W W') ∨ (e = .returned (.bool false) ∧ Jx (pre ++ [x]) W'))
    (W : World) (hBs : W.cell? ⟨Bs, 0, none⟩ = some (.slice (some ⟨b, off, none⟩) rs.length cap)) (hBi : W.cell? ⟨Bi, 0, none⟩ = some (.int .i64 i)) (hc : ∀ j (hj : j < rs.length), W.cell? ⟨b, off + j, none⟩ = some rs[j].1.1) (h0 : J [] W) :
    CallsIn Fence.wide n Try.prog 188 #[.func (.yield l) #[] #[], .pointer (some ⟨Bs, 0, none⟩), .pointer (some ⟨Bi, 0, none⟩)] W fun e W' => (∃ v, e = .returned v) ∧
      ((∃ ys, ys = rs.eraseIdx i ∧ J ys W') ∨ (∃ pre, True ∧ Jx pre W')) := by
  refine callsIn_of_wp Try.func188 rfl trivial ?_ rfl
  simp only [Try.ntmps188, List.size_toArray, List.length_cons, List.length_nil, Nat.reduceAdd, Nat.reduceSub, Array.replicate_succ, Array.replicate_zero, List.push_toArray, List.append_toArray, List.nil_append, List.cons_append]
  have HC := hid hc
  have HY := hid hY
  have HI := hid hBi
  clear hc hY hBi
  gi_wp2
  gi_loopw [8] (fun t wr => ∃ k : Nat, k ≤ rs.length ∧ t = .int .i64 k ∧ J ((rs.take k).eraseIdx i) wr ∧ Below n₀ W wr)
    (fun t _ => rs.length - (intOf t).toNat)
  case atStart => exact ⟨0, Nat.zero_le _, rfl, by simpa using h0, Below.refl _ _⟩
  case round =>
    obtain ⟨k, hk, rfl, hJs, hnx⟩ := hrel
    have HJ := hid hJs
    have HN := hid hnx
    clear hJs hnx
    by_cases hlt : k < rs.length
    · have hcx : wr.cell? ⟨b, off + k, none⟩ = some rs[k].1.1 := (HN.out.cell (p := ⟨b, off + k, none⟩) hb).trans (HC.out k hlt)
      have hix : wr.cell? ⟨Bi, 0, none⟩ = some (.int .i64 i) := (HN.out.cell (p := ⟨Bi, 0, none⟩) hbi).trans HI.out
      by_cases hne : k = i
      · have HT := hid (but_same rs i hi)
        have hne' : (((k : Nat) : Int) != ((i : Nat) : Int)) = false := by simp [hne]
        have HE := hid hne
        generalize rs[k] = x at *
        obtain ⟨⟨u, zs⟩, hx⟩ := x
        dsimp only at hcx
        clear hne
        gi_wp2
        refine ⟨fun _ h => (by cases h), ?_⟩
        gi_wp2
        go_roundw
        case rel => exact ⟨k + 1, by omega, by simp, by have := HE.out; subst this; rw [HT.out]; exact HJ.out, HN.out⟩
        case measure => simp [intOf]; omega
      · obtain ⟨fn, tmps, assign, body, hy, hR⟩ := HY.out _ rs[k] wr HJ.out (by
          have h1 : ((rs.take k).eraseIdx i).length ≤ (rs.take k).length := List.length_eraseIdx_le ..
          have h2 : (rs.take k).length ≤ k := List.length_take_le ..
          omega)
        have HT := hid (but_next rs i k hlt hne)
        have hne' : (((k : Nat) : Int) != ((i : Nat) : Int)) = true := by simp; omega
        generalize rs[k] = x at *
        obtain ⟨⟨u, zs⟩, hx⟩ := x
        dsimp only at hy hcx
        have HR := hid hR
        clear hR hne
        gi_wp2
        refine HR.out.mono ?_
        rintro e W3 (⟨rfl, hJ3, hk3⟩ | ⟨rfl, hJx3⟩)
        · have HJ3 := hid hJ3
          have HK3 := hid hk3
          clear hJ3 hk3
          gi_wp2
          go_roundw
          case rel => exact ⟨k + 1, by omega, by simp, by rw [HT.out]; exact HJ3.out, HN.out.trans HK3.out⟩
          case measure => simp [intOf]; omega
        · have HJ3 := hid hJx3
          clear hJx3
          gi_wp2
          refine bodyPost_ret (results_none rfl _ _ _) rfl ?_
          exact ⟨⟨_, rfl⟩, .inr ⟨_, trivial, HJ3.out⟩⟩
    · have : k = rs.length := by omega
      subst this
      rw [List.take_length] at HJ
      gi_wp2
      go_end0
      exact ⟨⟨_, rfl⟩, .inl ⟨_, rfl, HJ.out⟩⟩

set_option maxHeartbeats 1000000 in
theorem but_in (n : Nat) (a : Option Addr) (len cap : Nat) (i : Int) (w : World) :
    CallsIn Fence.wide n Try.prog 167 #[.slice a len cap, .int .i64 i] w fun e w' => e = .returned (.func (.func 188) #[] #[.pointer (some ⟨w.heap.size, 0, none⟩), .pointer (some ⟨w.heap.size + 1, 0, none⟩)]) ∧
      (w.alloc (.cells #[.slice a len cap] 26)).alloc (.cells #[.int .i64 i] 3) = w' := by
  refine callsIn_of_wp Try.func167 rfl trivial ?_ rfl
  simp only [Try.ntmps167, List.size_toArray, List.length_cons, List.length_nil, Nat.reduceAdd, Nat.reduceSub, Array.replicate_succ, Array.replicate_zero, List.push_toArray, List.append_toArray, List.nil_append, List.cons_append]
  gi_wp2
  go_ret
  exact ⟨rfl, rfl⟩

end Go.Proofs.Ytoglcohdanpciaa
