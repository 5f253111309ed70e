/- The reference's slots: padded. -/
import Derived.Test.YtiljhjegfklgmaaRsD
namespace Go.Proofs.Ytiljhjegfklgmaa
open Go.RowKit Go.Shelf
set_option maxRecDepth 100000
set_option linter.unusedSimpArgs false

/-- A row is put behind an outer row. -/
theorem RowsOwn.push {w : World} {v : Value} {us : List Value} {rs : List (List Int)} (h : RowsOwn w v us rs) (a : Option Addr) (n c : Nat) (zs : List Int) (hr : RowAt w (.slice a n c) zs)
    (hnot : ∀ b ∈ (us ++ [Value.slice a n c]).filterMap Value.ownBlock, v.ownBlock ≠ some b ∧ b < w.heap.size) (hlen : us.length ≤ 1000000) :
    ∃ va vc w', (Builtin.append_ #[22, 22] 22 #[v, .slice (some ⟨w.heap.size, 0, none⟩) 1 1]).run Try.prog (w.alloc (.cells #[.slice a n c] 31)) = .ok (.slice va (us.length + 1) vc) w' ∧
      Keeps v.ownBlock.toList w w' ∧ RowsOwn w' (.slice va (us.length + 1) vc) (us ++ [.slice a n c]) (rs ++ [zs]) ∧
      (∀ b, (Value.slice va (us.length + 1) vc).ownBlock = some b → v.ownBlock = some b ∨ w.heap.size ≤ b) := by
  obtain ⟨ie, hie, hz, hsz, hby⟩ := info_parts infoT28
  have hsA : (w.alloc (.cells #[.slice a n c] 31)).heap.size = w.heap.size + 1 := by simp
  obtain ⟨va, vc, w', hrun, ho, hg, hnw⟩ := run_append_newT (P := Try.prog) (w.alloc (.cells #[.slice a n c] 31)) 0 22 22 31 ie _ 24 Try.underlying22 hie hz hsz hby (by omega) (by rfl) v _ _ (h.own.alloc _) ⟨w.heap.size, 0, none⟩ 1 1 [.slice a n c] rfl
    (fun j u hu => by rw [Addr.add_mid, Nat.zero_add, cell_of_row _ _ j _ _ (0, 0) (heap_alloc_new w _)]; simpa using hu) (by simp [Value.oneCell']) (by omega) (by omega)
  have hk : ∀ k, k < w.heap.size → v.ownBlock ≠ some k → w'.heap[k]? = w.heap[k]? := fun k hk hne => (hg.block k (by omega) (fun e => hne e.symm)).trans (Below.heap_alloc _ _ _ hk)
  have hszw : w.heap.size ≤ w'.heap.size := by have := hg.size; omega
  have hbb : ∀ b, (Value.slice va (us.length + 1) vc).ownBlock = some b → v.ownBlock = some b ∨ w.heap.size ≤ b := fun b e => by
    rcases hnw with h3 | h3
    · exact .inl (h3 ▸ e)
    · exact .inr (by have := h3 b e; omega)
  refine ⟨va, vc, w', hrun, ⟨hg.os, hg.tape, hg.output, hszw, fun k hk2 hm => hk k hk2 (fun e => hm (by rw [e]; simp))⟩, ⟨by simpa using ho, by simp [h.len], fun i hi => ?_⟩, hbb⟩
  have hkeep : ∀ (u : Value) (ys : List Int), RowAt w u ys → u ∈ us ++ [Value.slice a n c] → RowAt w' u ys := fun u ys hu hm => by
    obtain ⟨a1, cap, e, r1, r2, r3, r4, r5⟩ := hu
    refine ⟨a1, cap, e, r1, r2, r3, r4, fun ad had j x hx => ?_⟩
    have hm2 : ad.block ∈ (us ++ [Value.slice a n c]).filterMap Value.ownBlock := List.mem_filterMap.2 ⟨u, hm, by rw [e, had]; rfl⟩
    obtain ⟨h2, h3⟩ := hnot ad.block hm2
    rw [World.cell?_of_block (w := w) (a := ad.add j) (by rw [Addr.add_block]; exact hk ad.block h3 h2)]
    exact r5 ad had j x hx
  by_cases hlt : i < us.length
  · rw [List.getElem_append_left hlt]
    have := h.rows i hlt
    rw [List.getD_eq_getElem?_getD, List.getElem?_append_left (by rw [← h.len]; exact hlt), ← List.getD_eq_getElem?_getD]
    exact hkeep _ _ this (List.mem_append_left _ (List.getElem_mem hlt))
  · have hi2 : i = us.length := by simp at hi; omega
    subst hi2
    rw [List.getElem_append_right (Nat.le_refl _)]
    have e : (rs ++ [zs]).getD us.length [] = zs := by rw [h.len]; simp
    rw [e]
    simp only [Nat.sub_self, List.getElem_cons_zero]
    exact hkeep _ _ hr (by simp)

/-- The first k parts of b, each with noughts behind it. -/
def padR (b : List Int) (k : Nat) : List (List Int) := (List.range k).map fun j => pad64 (chk b j)
theorem padR_succ (b : List Int) (k : Nat) : padR b (k + 1) = padR b k ++ [pad64 (chk b k)] := by unfold padR; rw [List.range_succ, List.map_append]; rfl
theorem padR_len (b : List Int) (k : Nat) : (padR b k).length = k := by simp [padR]

theorem mk64 (w : World) : (Instr.makeSlice 31 (.int .i64 64) (.int .i64 64)).run Try.prog w = .ok (.slice (some ⟨w.heap.size, 0, none⟩) 64 64) (w.alloc (.cells zrow.cells.toArray 5)) := by
  obtain ⟨i0, hi, hz0, hz1, hz2⟩ := info_parts info5
  have := run_makeSlice (P := Try.prog) w 31 5 i0 (.int .u8 0) Try.underlying31 hi hz0 .i64 .i64 64 64 (by omega) (by omega) (by rw [hz1]; omega) (by rw [hz2]; omega) (by omega)
  rw [this, hz1]
  have e : madeCells (Value.int .u8 0).cells ((64 : Int).toNat * 1) = zrow.cells.toArray := by
    apply Array.ext'
    have e2 : madeCells (Value.int .u8 0).cells ((64 : Int).toNat * 1) = madeCells #[Value.int .u8 0] 64 := rfl
    rw [e2, toList_madeCells_one (Value.int .u8 0)]
    rfl
  rw [e]
  rfl

/-- The rows lie in memory made since w. -/
def NewRows (w w' : World) (lv : Value) (us : List Value) : Prop := ∀ x, lv.ownBlock = some x ∨ x ∈ us.filterMap Value.ownBlock → w.heap.size ≤ x ∧ x < w'.heap.size

end Go.Proofs.Ytiljhjegfklgmaa
