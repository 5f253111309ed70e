/- The reference's disk: a number put behind At; a row of a row of rows replaced; what NewDisk refuses. -/
import Derived.Test.YtofoeemgplggbaaRfF
namespace Go.Proofs.Ytofoeemgplggbaa
open Go.RowKit

theorem rnewBad_any (c : Int) (h : c < 2 ∨ 4160 < c) (w : World) :
    Calls Try.prog 8 #[.int .i64 c] w fun e w' => e = .returned (.tuple #[.pointer none, .int .i64 1]) ∧ w = w' := by
  by_cases h2 : c < 2
  · go_enter Try.func8, Try.ntmps8
    go_wp2_with fail
    go_ret2
    exact ⟨rfl, rfl⟩
  · have h3 : 4160 < c := h.resolve_left h2
    go_enter Try.func8, Try.ntmps8
    go_wp2_with fail
    go_ret2
    exact ⟨rfl, rfl⟩

/-- A number is put behind At. -/
theorem RefIn.appAt {w : World} {q : Nat} {s s' : RSt} {vf : Nat → Value} {uf : Nat → List Value} (h : RefIn w q s vf uf) (n : Int) (hs : s'.ats = s.ats ++ [n]) (hrf : s'.rf = s.rf)
    (hn : s'.ops = s.ops ∧ s'.fuse = s.fuse ∧ s'.dead = s.dead) (hlen : s.ats.length ≤ 1000000) :
    ∃ va vc w', (Builtin.append_ #[40, 40] 40 #[vf 2, .slice (some ⟨w.heap.size, 0, none⟩) 1 1]).run Try.prog (w.alloc (.cells #[.int .i64 n] 3)) = .ok (.slice va (s.ats.length + 1) vc) w' ∧
      Keeps (vf 2).ownBlock.toList w w' ∧ w'.heap[q]? = w.heap[q]? ∧ RefIn (w'.setCell ⟨q, 2, none⟩ (.slice va (s.ats.length + 1) vc)) q s' (upd vf 2 (.slice va (s.ats.length + 1) vc)) (upd uf 2 []) ∧
      (∀ b, (Value.slice va (s.ats.length + 1) vc).ownBlock = some b → (vf 2).ownBlock = some b ∨ w.heap.size ≤ b) := by
  obtain ⟨ie, hie, hz, hsz, hby⟩ := info_parts infoT3
  have hsA : (w.alloc (.cells #[.int .i64 n] 3)).heap.size = w.heap.size + 1 := by simp
  obtain ⟨va, vc, w', hrun, ho, hg, hnw⟩ := run_append_newT (P := Try.prog) (w.alloc (.cells #[.int .i64 n] 3)) 0 40 40 3 ie _ 8 Try.underlying40 hie hz hsz hby (by omega) (by rfl) (vf 2) _ _ (h.at_.alloc _) ⟨w.heap.size, 0, none⟩ 1 1 [.int .i64 n] rfl
    (fun j u hu => by rw [Addr.add_mid, Nat.zero_add, cell_of_row _ _ j _ _ (0, 0) (heap_alloc_new w _)]; simpa using hu) (by simp [Value.oneCell']) (by omega) (by omega)
  have hk : ∀ k, k < w.heap.size → (vf 2).ownBlock ≠ some k → w'.heap[k]? = w.heap[k]? := fun k hk hne => (hg.block k (by omega) (fun e => hne e.symm)).trans (Below.heap_alloc _ _ _ hk)
  have hszw : w.heap.size ≤ w'.heap.size := by have := hg.size; omega
  have hbb : ∀ b, (Value.slice va (s.ats.length + 1) vc).ownBlock = some b → (vf 2).ownBlock = some b ∨ w.heap.size ≤ b := fun b e => by
    rcases hnw with h3 | h3
    · exact .inl (h3 ▸ e)
    · exact .inr (by have := h3 b e; omega)
  refine ⟨va, vc, w', hrun, ⟨hg.os, hg.tape, hg.output, hszw, fun k hk2 hm => hk k hk2 (fun e => hm (by rw [e]; simp))⟩, hk q (lt_of_block h.blk) (h.no 2 (by omega)), ?_, hbb⟩
  refine h.put 2 (by omega) _ [] hszw hk hbb (fun b hb => by simp at hb) (fun e => absurd rfl e) (fun _ => ⟨rfl, ?_⟩) (fun i _ _ _ => by rw [hrf]) (fun e => absurd rfl e) hn
  rw [hs]
  simpa using ho

theorem own_set {w : World} {B : Nat} {e : TypeId} {n c g : Nat} {xs : List Value} (h : w.ownsRow B e 1 (.slice (some ⟨g, 0, none⟩) n c) n xs) (i : Nat) (u : Value) : (w.setCell ⟨g, i, none⟩ u).ownsRow B e 1 (.slice (some ⟨g, 0, none⟩) n c) n (xs.set i u) := by
  refine ⟨by simpa using h.1, ?_⟩
  rcases h.2 with ⟨h0, _⟩ | ⟨g', cap, cur, h0, hb, hg, hnc, hcm, hcs, ht⟩
  · cases h0
  · injection h0 with h1 _ h3
    injection h1 with h1
    injection h1 with h1
    subst h1; subst h3
    refine .inr ⟨g, c, cur.setIfInBounds i u, rfl, hb, heap_setCell_same w g i cur _ u hg, hnc, hcm, by simpa using hcs, ?_⟩
    rw [Array.toList_setIfInBounds, ← ht, List.take_set]

/-- A row that an outer row holds is replaced by another, in its place. -/
theorem RefIn.swap {w : World} {q : Nat} {s s' : RSt} {vf : Nat → Value} {uf : Nat → List Value} (h : RefIn w q s vf uf) (f : Nat) (hf : f < 4) (hf2 : f ≠ 2) (i : Nat) (hi : i < (uf f).length) (u : Value) (h1 : u.oneCell' = true) (zs : List Int) (hr : RowAt w u zs)
    (hoff : ∀ b, u.ownBlock = some b → b ≠ q ∧ (∀ j, j < 4 → (vf j).ownBlock ≠ some b) ∧ b < w.heap.size)
    (hs : s'.rf f = (s.rf f).set i zs) (hoth : ∀ j, j < 4 → j ≠ f → j ≠ 2 → s'.rf j = s.rf j) (hl2 : s'.ats = s.ats) (hn : s'.ops = s.ops ∧ s'.fuse = s.fuse ∧ s'.dead = s.dead) (g c : Nat) (hg : vf f = .slice (some ⟨g, 0, none⟩) (uf f).length c) :
    RefIn (w.setCell ⟨g, i, none⟩ u) q s' vf (upd uf f ((uf f).set i u)) := by
  have hrow := h.row f hf hf2
  have hgb : (vf f).ownBlock = some g := by rw [hg]; rfl
  have hset : ∀ b, b ≠ g → (w.setCell ⟨g, i, none⟩ u).heap[b]? = w.heap[b]? := fun b hb => Below.heap_setCell _ _ _ _ hb
  have hqg : q ≠ g := fun e => h.no f hf (by rw [hgb, e])
  have hsize : (w.setCell ⟨g, i, none⟩ u).heap.size = w.heap.size := by simp [World.setCell]
  have hin : ∀ j, j < 4 → ∀ b ∈ (uf j).filterMap Value.ownBlock, b ≠ g := fun j hj b hb e => (h.off j hj b hb).2 f hf (by rw [hgb, e])
  have hmem : ∀ b ∈ ((uf f).set i u).filterMap Value.ownBlock, b ∈ (uf f).filterMap Value.ownBlock ∨ u.ownBlock = some b := fun b hb => by
    obtain ⟨x, hx, e⟩ := List.mem_filterMap.1 hb
    rcases List.mem_or_eq_of_mem_set hx with hx | hx
    · exact .inl (List.mem_filterMap.2 ⟨x, hx, e⟩)
    · subst hx; exact .inr e
  refine ⟨?_, fun j hj h2 => ?_, ?_, ?_, h.apart, h.no, fun j hj b hb => ?_, fun j hj b hb => ?_⟩
  · rw [hset q hqg, h.blk]
    simp [rcells, hn.1, hn.2.1, hn.2.2]
  · by_cases e : j = f
    · subst e
      rw [upd_same, hs]
      have hw := hrow.own
      rw [hg] at hw
      refine ⟨by rw [hg, List.length_set]; exact own_set hw i u, by simp [hrow.len], fun k hk => ?_⟩
      have hk2 : k < (uf j).length := by simpa using hk
      have hkeep : ∀ (x : Value) (ys : List Int), RowAt w x ys → (∀ b, x.ownBlock = some b → b ≠ g) → RowAt (w.setCell ⟨g, i, none⟩ u) x ys := fun x ys hx hb => by
        obtain ⟨a1, cap, e, r1, r2, r3, r4, r5⟩ := hx
        refine ⟨a1, cap, e, r1, r2, r3, r4, fun ad had m y hy => ?_⟩
        rw [World.cell?_of_block (w := w) (a := ad.add m) (by rw [Addr.add_block]; exact hset _ (hb _ (by rw [e, had]; rfl)))]
        exact r5 ad had m y hy
      by_cases e : k = i
      · subst e
        rw [List.getElem_set_self]
        have e2 : ((s.rf j).set k zs).getD k [] = zs := by
          rw [List.getD_eq_getElem?_getD, List.getElem?_set_self (by rw [← hrow.len]; exact hk2)]; rfl
        rw [e2]
        exact hkeep u zs hr (fun b hb e3 => (hoff b hb).2.1 j hj (by rw [hgb, e3]))
      · have e' : i ≠ k := fun h => e h.symm
        rw [List.getElem_set_ne e']
        have e2 : ((s.rf j).set i zs).getD k [] = (s.rf j).getD k [] := by
          rw [List.getD_eq_getElem?_getD, List.getElem?_set_ne e', ← List.getD_eq_getElem?_getD]
        rw [e2]
        exact hkeep _ _ (hrow.rows k hk2) (fun b hb => hin j hj b (List.mem_filterMap.2 ⟨_, List.getElem_mem hk2, hb⟩))
    · rw [upd_ne _ _ e, hoth j hj e h2]
      exact (h.row j hj h2).same (fun b e2 => hset b (fun e3 => h.apart j f hj hf e b e2 (by rw [hgb, e3]))) (fun b e2 => hset b (hin j hj b e2))
  · rw [hl2]
    exact own_same h.at_ (fun b e2 => hset b (fun e3 => h.apart 2 f (by omega) hf (fun e => hf2 e.symm) b e2 (by rw [hgb, e3])))
  · rw [upd_ne _ _ (fun e => hf2 e.symm)]
    exact h.u2
  · by_cases e : j = f
    · subst e
      rw [upd_same] at hb
      rcases hmem b hb with hb | hb
      · exact h.off j hj b hb
      · exact ⟨(hoff b hb).1, (hoff b hb).2.1⟩
    · rw [upd_ne _ _ e] at hb
      exact h.off j hj b hb
  · rw [hsize]
    by_cases e : j = f
    · subst e
      rw [upd_same] at hb
      rcases hmem b hb with hb | hb
      · exact h.lt j hj b hb
      · exact (hoff b hb).2.2
    · rw [upd_ne _ _ e] at hb
      exact h.lt j hj b hb

end Go.Proofs.Ytofoeemgplggbaa
