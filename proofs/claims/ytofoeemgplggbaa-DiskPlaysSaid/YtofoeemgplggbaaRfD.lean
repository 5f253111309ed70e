/- append of one single cell (a number, a row) onto an own row: where it lies; as an operation. -/
import Derived.Test.YtofoeemgplggbaaRfC
namespace Go.Proofs.Ytofoeemgplggbaa
open Go.RowKit

theorem run_append_newT {P : Program} (w : World) (B : Nat) (t ty e : TypeId) (i : TypeInfo) (z : Value) (nb : Nat) (ht : P.underlying t = some (.slice e)) (hi : P.info? e = some i) (hz : i.zero = some z)
    (hsize : i.size = 1) (hby : i.bytes = nb) (hnb : nb ≤ 24) (hzs : z.cells.size = 1) (v : Value) (n : Nat) (xs : List Value) (hown : w.ownsRow B e 1 v n xs)
    (a : Addr) (m c : Nat) (news : List Value) (hl : news.length = m) (hnews : ∀ j u, news[j]? = some u → w.cell? (a.add j) = some u) (h1 : ∀ u ∈ news, u.oneCell' = true)
    (hn : n + m ≤ 1000000000) (hbase : B ≤ w.heap.size) :
    ∃ va vc w', (Builtin.append_ #[t, t] ty #[v, .slice (some a) m c]).run P w = .ok (.slice va (n + m) vc) w' ∧ w'.ownsRow B e 1 (.slice va (n + m) vc) (n + m) (xs ++ news) ∧ w.grownBy w' v.ownBlock ∧ NewRow w v (.slice va (n + m) vc) := by
  have hlen : news.length = m * 1 := by omega
  have hmax : n + m ≤ maxLen := by unfold maxLen; omega
  have hbb : (n + m) * nb ≤ 140737488355328 := Nat.le_trans (Nat.mul_le_mul hn hnb) (by omega)
  obtain ⟨v', w', hr, ho, hg, _⟩ := run_append_own (P := P) w B t ty e i z 1 nb ht hi hz hsize hby hzs (by omega) v n xs hown a m c news hlen hnews h1 hmax hbb hbase
  obtain ⟨va, vc, rfl⟩ := ownsRow_slice ho
  refine ⟨va, vc, w', hr, ho, hg, ?_⟩
  rcases hown.2 with ⟨rfl, rfl⟩ | ⟨g, cap, cur, rfl, _, hgg, hnc, _, hcs, htake⟩
  · right
    have hx : xs = [] := List.eq_nil_of_length_eq_zero (by simpa using hown.1)
    subst hx
    obtain ⟨v2, w2, hr2, ho2, _⟩ := run_append_own (P := P) w w.heap.size t ty e i z 1 nb ht hi hz hsize hby hzs (by omega) (.slice none 0 0) 0 [] (World.ownsRow_nil _ _ _ _) a m c news hlen hnews h1 hmax hbb (Nat.le_refl _)
    rw [hr] at hr2
    injection hr2 with e1 e2
    subst e1; subst e2
    exact fun k hk => (ho2.lt k hk).1
  · by_cases hroom : n + m ≤ cap
    · left
      have hr2 := run_append_room (P := P) w t ty e i ht hi g n cap cur hgg a m c news (by rw [hsize]; exact hlen) hnews h1 hroom (by rw [hsize, hl, hcs]; omega)
      rw [hr] at hr2
      injection hr2 with e1 e2
      rw [e1]; rfl
    · right
      have hr2 := run_append_grow (P := P) w t ty e i z ht hi hz ⟨g, 0, none⟩ n cap xs (by rw [hsize]; exact hown.1) (hown.cells (g := g) rfl) a m c news (by rw [hsize]; exact hlen) hnews (by omega) (by omega) (growslice_fits (by omega) (by rw [hby]; omega))
      rw [hr] at hr2
      injection hr2 with e1 e2
      rw [e1]
      intro k hk
      simp [Value.ownBlock] at hk
      omega

theorem exec_appendT {ρ : Operand → Value} {o : Oper} {w w' : World} {v u z : Value} (t : TypeId) (x y : Operand) (ho : o.op = .call { callee := .builtin .append, args := #[x, y], argTypes := #[t, t] }) (hx : ρ x = u) (hy : ρ y = z) (h : (Builtin.append_ #[t, t] o.type #[u, z]).run Try.prog w = .ok v w') : (execOp ρ o).run Try.prog w = .ok (.value v) w' := by
  simp [execOp, ho, resolve, invoke, builtin, hx, hy, h, Result.andThen]

theorem infoT3 : (Try.prog.info? 3).map (fun i => (i.zero, i.size, i.bytes)) = some (some (.int .i64 0), 1, 8) := by kernel_rfl
theorem infoT28 : (Try.prog.info? 34).map (fun i => (i.zero, i.size, i.bytes)) = some (some (.slice none 0 0), 1, 24) := by kernel_rfl

/-- A slice of one number; of one row. -/
theorem exec_oneInt {ρ : Operand → Value} {o : Oper} {w : World} (x : Operand) (c : Int) (ho : o.op = .buildSlice 40 1 #[(0, x)]) (hx : ρ x = .int .i64 c) :
    (execOp ρ o).run Try.prog w = .ok (.value (.slice (some ⟨w.heap.size, 0, none⟩) 1 1)) (w.alloc (.cells #[.int .i64 c] 3)) := by
  obtain ⟨ie, hie, hz, hs, _⟩ := info_parts infoT3
  have h : (Instr.buildSlice 40 1 #[(0, .int .i64 c)]).run Try.prog w = .ok (.slice (some ⟨w.heap.size, 0, none⟩) 1 1) (w.alloc (.cells #[.int .i64 c] 3)) := by
    refine run_buildSlice w _ _ 1 _ _ ie _ Try.underlying40 hie hz (by rw [hs]; decide) (by rw [hs]; decide) ?_
    rw [hs]
    have e : (Array.range (1 * 1)) = #[0] := rfl
    have e2 : (Value.int .i64 0).cells = #[.int .i64 0] := rfl
    have e3 : (Value.int .i64 c).cells = #[.int .i64 c] := rfl
    simp only [Instr.fill, e, e2, e3]
    simp
  simp only [execOp, ho, List.map_toArray, List.map_cons, List.map_nil, hx, Sem.run_bind, h, Result.andThen_ok, Sem.run_pure]

theorem exec_oneRow {ρ : Operand → Value} {o : Oper} {w : World} (x : Operand) (a : Option Addr) (n c : Nat) (ho : o.op = .buildSlice 39 1 #[(0, x)]) (hx : ρ x = .slice a n c) :
    (execOp ρ o).run Try.prog w = .ok (.value (.slice (some ⟨w.heap.size, 0, none⟩) 1 1)) (w.alloc (.cells #[.slice a n c] 34)) := by
  obtain ⟨ie, hie, hz, hs, _⟩ := info_parts infoT28
  have h : (Instr.buildSlice 39 1 #[(0, .slice a n c)]).run Try.prog w = .ok (.slice (some ⟨w.heap.size, 0, none⟩) 1 1) (w.alloc (.cells #[.slice a n c] 34)) := by
    refine run_buildSlice w _ _ 1 _ _ ie _ Try.underlying39 hie hz (by rw [hs]; decide) (by rw [hs]; decide) ?_
    rw [hs]
    have e : (Array.range (1 * 1)) = #[0] := rfl
    have e2 : (Value.slice none 0 0).cells = #[.slice none 0 0] := rfl
    have e3 : (Value.slice a n c).cells = #[.slice a n c] := rfl
    simp only [Instr.fill, e, e2, e3]
    simp
  simp only [execOp, ho, List.map_toArray, List.map_cons, List.map_nil, hx, Sem.run_bind, h, Result.andThen_ok, Sem.run_pure]

/-- A row is put behind an outer row: r lies in w, and in none of the outer rows' blocks. -/
theorem RefIn.app {w : World} {q : Nat} {s s' : RSt} {vf : Nat → Value} {uf : Nat → List Value} (h : RefIn w q s vf uf) (f : Nat) (hf : f < 4) (hf2 : f ≠ 2) (a : Option Addr) (n c : Nat) (zs : List Int) (hr : RowAt w (.slice a n c) zs)
    (hoff : ∀ b, (Value.slice a n c).ownBlock = some b → b ≠ q ∧ (∀ j, j < 4 → (vf j).ownBlock ≠ some b) ∧ b < w.heap.size)
    (hs : s'.rf f = s.rf f ++ [zs]) (hoth : ∀ i, i < 4 → i ≠ f → i ≠ 2 → s'.rf i = s.rf i) (hl2 : s'.ats = s.ats) (hn : s'.ops = s.ops ∧ s'.fuse = s.fuse ∧ s'.dead = s.dead) (hlen : (uf f).length ≤ 1000000) :
    ∃ va vc w', (Builtin.append_ #[39, 39] 39 #[vf f, .slice (some ⟨w.heap.size, 0, none⟩) 1 1]).run Try.prog (w.alloc (.cells #[.slice a n c] 34)) = .ok (.slice va ((uf f).length + 1) vc) w' ∧
      Keeps (vf f).ownBlock.toList w w' ∧ w'.heap[q]? = w.heap[q]? ∧ RefIn (w'.setCell ⟨q, f, none⟩ (.slice va ((uf f).length + 1) vc)) q s' (upd vf f (.slice va ((uf f).length + 1) vc)) (upd uf f (uf f ++ [.slice a n c])) ∧
      (∀ b, (Value.slice va ((uf f).length + 1) vc).ownBlock = some b → (vf f).ownBlock = some b ∨ w.heap.size ≤ b) := by
  obtain ⟨ie, hie, hz, hsz, hby⟩ := info_parts infoT28
  have hrow := h.row f hf hf2
  have hsA : (w.alloc (.cells #[.slice a n c] 34)).heap.size = w.heap.size + 1 := by simp
  have kA := (Keeps.refl [] w).alloc (.cells #[.slice a n c] 34)
  obtain ⟨va, vc, w', hrun, ho, hg, hnw⟩ := run_append_newT (P := Try.prog) (w.alloc (.cells #[.slice a n c] 34)) 0 39 39 34 ie _ 24 Try.underlying39 hie hz hsz hby (by omega) (by rfl) (vf f) _ _ (hrow.own.alloc _) ⟨w.heap.size, 0, none⟩ 1 1 [.slice a n c] rfl
    (fun j u hu => by rw [Addr.add_mid, Nat.zero_add, cell_of_row _ _ j _ _ (0, 0) (heap_alloc_new w _)]; simpa using hu) (by simp [Value.oneCell']) (by omega) (by omega)
  have hk : ∀ k, k < w.heap.size → (vf f).ownBlock ≠ some k → w'.heap[k]? = w.heap[k]? := fun k hk hne => (hg.block k (by omega) (fun e => hne e.symm)).trans (Below.heap_alloc _ _ _ hk)
  have hszw : w.heap.size ≤ w'.heap.size := by have := hg.size; omega
  have hbb : ∀ b, (Value.slice va ((uf f).length + 1) vc).ownBlock = some b → (vf f).ownBlock = some b ∨ w.heap.size ≤ b := fun b e => by
    rcases hnw with h3 | h3
    · exact .inl (h3 ▸ e)
    · exact .inr (by have := h3 b e; omega)
  have hnot : ∀ b ∈ (uf f ++ [Value.slice a n c]).filterMap Value.ownBlock, b ≠ q ∧ (∀ j, j < 4 → (vf j).ownBlock ≠ some b) ∧ b < w.heap.size := fun b hb => by
    rw [List.filterMap_append, List.mem_append] at hb
    rcases hb with hb | hb
    · exact ⟨(h.off f hf b hb).1, (h.off f hf b hb).2, h.lt f hf b hb⟩
    · simp only [List.filterMap_cons, List.filterMap_nil] at hb
      cases e : (Value.slice a n c).ownBlock with
      | none => rw [e] at hb; simp at hb
      | some b2 =>
        rw [e] at hb
        simp at hb
        subst hb
        exact hoff b e
  refine ⟨va, vc, w', hrun, ⟨hg.os, hg.tape, hg.output, hszw, fun k hk2 hm => hk k hk2 (fun e => hm (by rw [e]; simp))⟩, hk q (lt_of_block h.blk) (h.no f hf), ?_, hbb⟩
  refine h.put f hf _ _ hszw hk hbb (fun b hb => ?_) (fun _ => ?_) (fun e => absurd e hf2) hoth (fun _ => hl2) hn
  · obtain ⟨h1, h2, h3⟩ := hnot b hb
    refine ⟨h1, fun j hj _ => h2 j hj, fun e => ?_, by omega⟩
    rcases hbb b e with h4 | h4
    · exact h2 f hf h4
    · omega
  · rw [hs]
    have hkk : ∀ b, b < w.heap.size → (vf f).ownBlock ≠ some b → w'.heap[b]? = w.heap[b]? := hk
    refine ⟨by simpa using ho, by simp [hrow.len], fun i hi => ?_⟩
    have hkeep : ∀ (u : Value) (ys : List Int), RowAt w u ys → u ∈ uf f ++ [Value.slice a n c] → RowAt w' u ys := fun u ys hu hm => by
      obtain ⟨a1, cap, e, r1, r2, r3, r4, r5⟩ := hu
      refine ⟨a1, cap, e, r1, r2, r3, r4, fun ad had j x hx => ?_⟩
      have hm2 : ad.block ∈ (uf f ++ [Value.slice a n c]).filterMap Value.ownBlock := List.mem_filterMap.2 ⟨u, hm, by rw [e, had]; rfl⟩
      obtain ⟨_, h2, h3⟩ := hnot ad.block hm2
      rw [World.cell?_of_block (w := w) (a := ad.add j) (by rw [Addr.add_block]; exact hkk ad.block h3 (h2 f hf))]
      exact r5 ad had j x hx
    by_cases hlt : i < (uf f).length
    · rw [List.getElem_append_left hlt]
      have := hrow.rows i hlt
      rw [List.getD_eq_getElem?_getD, List.getElem?_append_left (by rw [← hrow.len]; exact hlt), ← List.getD_eq_getElem?_getD]
      exact hkeep _ _ this (List.mem_append_left _ (List.getElem_mem hlt))
    · have hi2 : i = (uf f).length := by simp at hi; omega
      subst hi2
      rw [List.getElem_append_right (Nat.le_refl _)]
      have e : (s.rf f ++ [zs]).getD (uf f).length [] = zs := by rw [hrow.len]; simp
      rw [e]
      simp only [Nat.sub_self, List.getElem_cons_zero]
      exact hkeep _ _ hr (by simp)

end Go.Proofs.Ytofoeemgplggbaa
