/- The law DiskLasts: what lies in memory. -/
import Derived.Test.YtodjkgifbocjdaaDkY
namespace Go.Proofs.Ytodjkgifbocjdaa
open Go.RowKit

/-- The disk, the rows, the bytes, each apart; all new since W. -/
structure LastW (W w : World) (p g gn K N : Nat) (s : DS) (F : List Nat) (vs : Nat → Value) (xs : Nat → List Int) (now : Nat → Int) : Prop where
  disk : DiskAt w p s F K
  may : MayAt w W.heap.size g vs xs
  nw : NowAt w gn now
  len : ∀ i, i < 8 → (xs i).length ≤ N
  byte : ∀ i, i < 8 → 0 ≤ now i ∧ now i ≤ 255
  dF : ∀ b ∈ F, ¬ MB g vs b ∧ b ≠ gn
  dN : ¬ MB g vs gn
  lN : W.heap.size ≤ gn
  lF : ∀ b ∈ F, W.heap.size ≤ b
  kp : Keeps [] W w

section
variable {W w w' : World} {p g gn K N : Nat} {s : DS} {F : List Nat} {vs : Nat → Value} {xs : Nat → List Int} {now : Nat → Int}

theorem LastW.mono (h : LastW W w p g gn K N s F vs xs now) {K' N' : Nat} (hK : K ≤ K') (hN : N ≤ N') : LastW W w p g gn K' N' s F vs xs now :=
  ⟨h.disk.mono hK, h.may, h.nw, fun i hi => Nat.le_trans (h.len i hi) hN, h.byte, h.dF, h.dN, h.lN, h.lF, h.kp⟩

theorem LastW.keep (h : LastW W w p g gn K N s F vs xs now) (k : Keeps [] w w') : LastW W w' p g gn K N s F vs xs now :=
  ⟨h.disk.keep k (by simp), h.may.keep k (by simp), h.nw.keep k (by simp), h.len, h.byte, h.dF, h.dN, h.lN, h.lF, h.kp.trans k⟩

theorem LastW.op (h : LastW W w p g gn K N s F vs xs now) {s' : DS} {F' : List Nat} {K' : Nat} (D : DiskAt w' p s' F' K') (k : Keeps F w w') (fr : Fresh w F F') : LastW W w' p g gn K' N s' F' vs xs now := by
  refine ⟨D, h.may.keep k (fun b hb => (h.dF b hb).1), h.nw.keep k (fun hm => (h.dF gn hm).2 rfl), h.len, h.byte, fun b hb => ?_, h.dN, h.lN, fun b hb => ?_, h.kp.trans' k (fun i hi hm => by have := h.lF i hm; omega)⟩
  · rcases fr b hb with hb | hb
    · exact h.dF b hb
    · have hg := lt_of_block h.nw
      exact ⟨fun hm => by have := (h.may.lt b hm).2; omega, by omega⟩
  · rcases fr b hb with hb | hb
    · exact h.lF b hb
    · have := h.kp.size; omega

theorem LastW.num (h : LastW W w p g gn K N s F vs xs now) (i : Nat) (c : Int) (hc : 0 ≤ c ∧ c ≤ 255) : LastW W (w.setCell ⟨gn, i, none⟩ (.int .u8 c)) p g gn K N s F vs xs (upd now i c) := by
  have k : Keeps [gn] w (w.setCell ⟨gn, i, none⟩ (.int .u8 c)) := (Keeps.refl [gn] w).setCell (Or.inl (by simp)) _
  refine ⟨h.disk.keep k (fun b hb hm => (h.dF b hb).2 (by simpa using hm)), h.may.keep k (fun b hb => by simp at hb; subst hb; exact h.dN), h.nw.put i c, h.len, fun j hj => ?_, h.dF, h.dN, h.lN, h.lF, h.kp.trans' k (fun j hj hm => by have := h.lN; simp at hm; omega)⟩
  by_cases e : j = i
  · subst e; rw [upd_same]; exact hc
  · rw [upd_ne _ _ e]; exact h.byte j hj

theorem LastW.row (h : LastW W w p g gn K N s F vs xs now) {vs' : Nat → Value} {xs' : Nat → List Int} {N' : Nat} (S : List Nat) (k : Keeps S w w') (hS : ∀ b ∈ S, MB g vs b) (m : MayAt w' W.heap.size g vs' xs') (hb : ∀ b, MB g vs' b → MB g vs b ∨ w.heap.size ≤ b)
    (hl : ∀ i, i < 8 → (xs' i).length ≤ N') : LastW W w' p g gn K N' s F vs' xs' now := by
  refine ⟨h.disk.keep k (fun b hb hm => (h.dF b hb).1 (hS b hm)), m, h.nw.keep k (fun hm => h.dN (hS gn hm)), hl, h.byte, fun b hb' => ⟨fun hm => ?_, (h.dF b hb').2⟩, fun hm => ?_, h.lN, h.lF, h.kp.trans' k (fun j hj hm => by have := (h.may.lt j (hS j hm)).1; omega)⟩
  · rcases hb b hm with h1 | h1
    · exact (h.dF b hb').1 h1
    · have := h.disk.lt b hb'; omega
  · rcases hb gn hm with h1 | h1
    · exact h.dN h1
    · have := lt_of_block h.nw; omega

/-- A row of one byte is laid. -/
theorem LastW.lit (h : LastW W w p g gn K N s F vs xs now) (i : Nat) (hi : i < 8) (c : Int) (hc : 0 ≤ c ∧ c ≤ 255) (hN : 1 ≤ N) :
    LastW W ((w.alloc (.cells #[.int .u8 c] 5)).setCell ⟨g, i, none⟩ (.slice (some ⟨w.heap.size, 0, none⟩) 1 1)) p g gn K N s F (upd vs i (.slice (some ⟨w.heap.size, 0, none⟩) 1 1)) (upd xs i [c]) now := by
  refine h.row [g] (((Keeps.refl [g] w).alloc _).setCell (Or.inl (by simp)) _) (fun b hb => .inl (by simpa using hb)) (h.may.lit i hi c hc) (MB.put hi (fun b e => .inr (by simp [Value.ownBlock] at e; omega))) (fun j hj => ?_)
  by_cases e : j = i
  · subst e; rw [upd_same]; simpa using hN
  · rw [upd_ne _ _ e]; exact h.len j hj

/-- A byte is put behind a row. -/
theorem LastW.more (h : LastW W w p g gn K N s F vs xs now) (i : Nat) (hi : i < 8) (c : Int) (hc : 0 ≤ c ∧ c ≤ 255) (hN : N ≤ 1000000) :
    ∃ va vc w', (Builtin.append_ #[28, 28] 28 #[vs i, .slice (some ⟨w.heap.size, 0, none⟩) 1 1]).run Try.prog (w.alloc (.cells #[.int .u8 c] 5)) = .ok (.slice va ((xs i).length + 1) vc) w' ∧ Keeps (vs i).ownBlock.toList w w' ∧
      w'.heap[g]? = some (.cells (row8 vs).toArray 28 (0, 0)) ∧ LastW W (w'.setCell ⟨g, i, none⟩ (.slice va ((xs i).length + 1) vc)) p g gn K (N + 1) s F (upd vs i (.slice va ((xs i).length + 1) vc)) (upd xs i (xs i ++ [c])) now := by
  obtain ⟨i0, hi0, hz0, hz1, hz2⟩ := info_parts info5
  have hg := lt_of_block h.may.cells
  have hsz : (w.alloc (.cells #[.int .u8 c] 5)).heap.size = w.heap.size + 1 := by simp
  have hkw := h.kp.size
  have ho := (h.may.own i hi).alloc (.cells #[.int .u8 c] 5)
  have hln := h.len i hi
  obtain ⟨v', w', hr, ho2, hgr, hnr⟩ := run_append_new (P := Try.prog) (w.alloc (.cells #[.int .u8 c] 5)) W.heap.size 28 28 5 i0 _ Try.underlying28 hi0 hz0 hz1 hz2 (by rfl) (vs i) _ _ ho ⟨w.heap.size, 0, none⟩ 1 1 [.int .u8 c] rfl
    (fun j u hu => by rw [Addr.add_mid, Nat.zero_add, cell_of_row _ _ j _ _ (0, 0) (heap_alloc_new w _)]; simpa using hu) (by simp [Value.oneCell']) (by omega) (by omega)
  have hk : ∀ k, k < w.heap.size → (vs i).ownBlock ≠ some k → w'.heap[k]? = w.heap[k]? := fun k hk hne => (hgr.block k (by omega) (fun e => hne e.symm)).trans (Below.heap_alloc _ _ _ hk)
  have hkp : Keeps (vs i).ownBlock.toList w w' := ⟨hgr.os, hgr.tape, hgr.output, by have := hgr.size; omega, fun k hk2 hm => hk k hk2 (fun e => hm (by rw [e]; simp))⟩
  have hbb : ∀ b, v'.ownBlock = some b → (vs i).ownBlock = some b ∨ w.heap.size ≤ b := fun b e => by
    rcases hnr with h1 | h1
    · exact .inl (h1 ▸ e)
    · exact .inr (by have := h1 b e; omega)
  obtain ⟨va, vc, rfl⟩ := ownsRow_slice ho2
  refine ⟨va, vc, w', hr, hkp, (hk g hg (h.may.no i hi)).trans h.may.cells, ?_⟩
  refine h.row (g :: (vs i).ownBlock.toList) ((hkp.mono (by intro k _ hk; simp at hk ⊢; exact .inr hk)).setCell (Or.inl (by simp)) _) (fun b hb => ?_) (h.may.put i hi _ (xs i ++ [c]) hk (by simpa using ho2) hbb (fun z hz => ?_)) (MB.put hi hbb) (fun j hj => ?_)
  · simp only [List.mem_cons, Option.mem_toList] at hb
    exact hb.imp id (fun hb => ⟨i, hi, hb⟩)
  · rcases List.mem_append.1 hz with hz | hz
    · exact h.may.byte i hi z hz
    · simp at hz; omega
  · by_cases e : j = i
    · subst e; rw [upd_same]; simp; omega
    · rw [upd_ne _ _ e]; have := h.len j hj; omega
end
end Go.Proofs.Ytodjkgifbocjdaa
