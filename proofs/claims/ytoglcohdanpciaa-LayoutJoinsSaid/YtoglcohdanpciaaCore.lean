/- Rows of bytes in memory: what is cut out of them, their cells. (For every layer.) -/
import Derived.Test.YtoglcohdanpciaaRows
import Derived.Test.YtoglcohdanpciaaBase
import Derived.ProofKit
namespace Go.Proofs.Ytoglcohdanpciaa
open Go.RowKit

def i64 (z : Int) : Prop := -9223372036854775808 ≤ z ∧ z ≤ 9223372036854775807

theorem info5 : (Try.prog.info? 5).map (fun i => (i.zero, i.size, i.bytes)) = some (some (.int .u8 0), 1, 1) := by kernel_rfl

theorem bytes_elem : Try.prog.underlying 34 = some (.slice (Try.prog.elem 34)) := by kernel_rfl
theorem bytes_el : Try.prog.elem 34 = 5 := by kernel_rfl

theorem size_u8 (W : World) : (sizeOf 5).run Try.prog W = .ok 1 W := by
  obtain ⟨i0, hi, hz0, hz1, hz2⟩ := info_parts info5
  simp [sizeOf, typeInfo, hi, hz1, Result.andThen]

/-- The first n bytes of a row. -/
theorem row_take {w : World} {a : Option Addr} {len cap : Nat} {zs : List Int} (h : RowAt w (.slice a len cap) zs) (n : Nat) (hn : n ≤ zs.length) :
    ∃ a1, (∀ W, (Instr.sliceAt 34 (.slice a len cap) none (some (.int .i64 (n : Int))) none).run Try.prog W = .ok (.slice a1 n cap) W) ∧
      (∀ W, (Instr.slice 34 (.slice a len cap) none (some (.int .i64 (n : Int))) none).run Try.prog W = .ok (.slice a1 n cap) W) ∧
      (∀ W, RowAt W (.slice a len cap) zs → RowAt W (.slice a1 n cap) (zs.take n)) ∧ (∀ ad, a1 = some ad → ∃ ad', a = some ad' ∧ ad'.block = ad.block) := by
  obtain ⟨a', cap', hv, h1, h2, h3, h4, h5⟩ := h
  injection hv with e1 e2 e3
  subst e1; subst e2; subst e3
  have hrun : ∀ W, (Instr.slice 34 (.slice a zs.length cap) none (some (.int .i64 (n : Int))) none).run Try.prog W = .ok (.slice (if cap = 0 then a else a.map (·.add 0)) n cap) W := by
    intro W
    rw [run_slice_h W 34 a zs.length cap bytes_elem .i64 n (by omega) (by omega), bytes_el, size_u8]
    simp [Result.andThen, sliced]
  have hadd : ∀ ad : Addr, ad.add 0 = ad := fun ad => by unfold Addr.add; split <;> simp_all
  have ha : (if cap = 0 then a else a.map (·.add 0)) = a := by
    split
    · rfl
    · cases a <;> simp [hadd]
  rw [ha] at hrun
  refine ⟨a, fun W => by rw [run_sliceAt_slice W 34 _ _ _ _ bytes_elem]; exact hrun W, hrun, ?_, fun ad had => ⟨ad, had, rfl⟩⟩
  rintro W ⟨a', cap', hv, g1, g2, g3, g4, g5⟩
  injection hv with e1 e2 e3
  subst e1; subst e3
  refine ⟨a, cap, by rw [List.length_take, Nat.min_eq_left hn], by rw [List.length_take]; omega, g2, g3, fun z hz => g4 z (List.mem_of_mem_take hz), fun ad had j u hu => g5 ad had j u ?_⟩
  rw [List.map_take, List.getElem?_take] at hu
  split at hu
  · exact hu
  · cases hu

/-- What is behind them. -/
theorem row_drop {w : World} {a : Option Addr} {len cap : Nat} {zs : List Int} (h : RowAt w (.slice a len cap) zs) (n : Nat) (hn : n ≤ zs.length) :
    ∃ a1, (∀ W, (Instr.sliceAt 34 (.slice a len cap) (some (.int .i64 (n : Int))) none none).run Try.prog W = .ok (.slice a1 (zs.length - n) (cap - n)) W) ∧
      (∀ W, (Instr.slice 34 (.slice a len cap) (some (.int .i64 (n : Int))) none none).run Try.prog W = .ok (.slice a1 (zs.length - n) (cap - n)) W) ∧
      (∀ W, RowAt W (.slice a len cap) zs → RowAt W (.slice a1 (zs.length - n) (cap - n)) (zs.drop n)) ∧ (∀ ad, a1 = some ad → ∃ ad', a = some ad' ∧ ad'.block = ad.block) := by
  obtain ⟨a', cap', hv, h1, h2, h3, h4, h5⟩ := h
  injection hv with e1 e2 e3
  subst e1; subst e2; subst e3
  have hrun : ∀ W, (Instr.slice 34 (.slice a zs.length cap) (some (.int .i64 (n : Int))) none none).run Try.prog W = .ok (.slice (if cap = n then a else a.map (·.add n)) (zs.length - n) (cap - n)) W := by
    intro W
    rw [run_slice_l W 34 a zs.length cap bytes_elem .i64 n (by omega) (by omega), bytes_el, size_u8]
    simp [Result.andThen, sliced]
  refine ⟨_, fun W => by rw [run_sliceAt_slice W 34 _ _ _ _ bytes_elem]; exact hrun W, hrun, ?_, ?_⟩
  · rintro W ⟨a', cap', hv, g1, g2, g3, g4, g5⟩
    injection hv with e1 e2 e3
    subst e1; subst e3
    refine ⟨_, cap - n, by rw [List.length_drop], by rw [List.length_drop]; omega, by omega, ?_, fun z hz => g4 z (List.mem_of_mem_drop hz), ?_⟩
    · split
      · intro _; omega
      · cases a with
        | none => intro _; have := g3 rfl; omega
        | some ad => simp
    · intro ad had j u hu
      have hj : n + j < zs.length := by
        have := (List.getElem?_eq_some_iff.1 hu).1
        simp at this; omega
      rw [if_neg (by omega)] at had
      cases a with
      | none => simp at had
      | some ad0 =>
        simp at had
        subst had
        have e : (ad0.add n).add j = ad0.add (n + j) := by
          have hc := g5 ad0 rfl 0 (.int .u8 zs[0]) (by simp [List.getElem?_eq_getElem (show 0 < zs.length by omega)])
          cases hsp : ad0.spot with
          | none =>
            obtain ⟨b0, o0, s0⟩ := ad0
            simp only at hsp
            subst hsp
            rw [Addr.add_lit, Addr.add_lit, Addr.add_lit, Nat.add_assoc]
          | some x =>
            exfalso
            unfold Addr.add at hc
            simp [hsp, World.cell?] at hc
            split at hc <;> simp_all
        rw [e]
        refine g5 ad0 rfl (n + j) u ?_
        rw [← hu, List.map_drop, List.getElem?_drop]
  · intro ad had
    split at had
    · exact ⟨ad, had, rfl⟩
    · cases a with
      | none => simp at had
      | some ad0 => simp at had; exact ⟨ad0, rfl, by rw [← had, Addr.add_block]⟩

/-- The cells of a row that is not empty. -/
theorem RowAt.open {w : World} {v : Value} {zs : List Int} (h : RowAt w v zs) (hne : 0 < zs.length) :
    ∃ g off cap, v = .slice (some ⟨g, off, none⟩) zs.length cap ∧ zs.length ≤ cap ∧ ∀ j, j < zs.length → w.cell? ⟨g, off + j, none⟩ = some (.int .u8 (zs.getD j 0)) := by
  obtain ⟨a, cap, rfl, h1, h2, h3, h4, h5⟩ := h
  cases a with
  | none => have := h3 rfl; omega
  | some ad =>
    obtain ⟨g, off, sp⟩ := ad
    have hc := h5 _ rfl 0 (.int .u8 zs[0]) (by simp [List.getElem?_eq_getElem hne])
    cases sp with
    | some x =>
      exfalso
      unfold Addr.add at hc
      simp [World.cell?] at hc
      split at hc <;> simp_all
    | none =>
      refine ⟨g, off, cap, rfl, h1, fun j hj => ?_⟩
      have := h5 _ rfl j (.int .u8 zs[j]) (by simp [List.getElem?_eq_getElem hj])
      rw [Addr.add_lit] at this
      rw [this, List.getD_eq_getElem?_getD, List.getElem?_eq_getElem hj]
      rfl

theorem take_snoc (zs : List Int) (k : Nat) (h : k < zs.length) : zs.take (k + 1) = zs.take k ++ [zs.getD k 0] := by
  rw [List.take_succ_eq_append_getElem h, List.getD_eq_getElem?_getD, List.getElem?_eq_getElem h]
  rfl

theorem row_lit {w : World} (zs : List Int) (T : TypeId) (hz : ∀ z ∈ zs, 0 ≤ z ∧ z ≤ 255) (n : Nat) (hn : n = zs.length) (hm : n ≤ maxLen) :
    RowAt (w.alloc (.cells (zs.map (Value.int .u8)).toArray T)) (.slice (some ⟨w.heap.size, 0, none⟩) n n) zs := by
  subst hn
  refine ⟨some ⟨w.heap.size, 0, none⟩, zs.length, rfl, Nat.le_refl _, hm, by simp, hz, ?_⟩
  rintro ad had j u hu
  obtain rfl := Option.some.inj had
  rw [Addr.add_lit, cell_of_row _ _ _ _ _ _ (heap_alloc_new w _), Nat.zero_add]
  simpa using hu

theorem own : ownKnob Try.prog.godebug = none := by kernel_rfl
theorem laidOut : laidOutB Try.prog = true := by kernel_rfl

end Go.Proofs.Ytoglcohdanpciaa
