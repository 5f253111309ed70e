/- blocks: the reference's fit. -/
import Derived.Test.YtamcllcjondcpaaBkV
import Derived.Test.YtamcllcjondcpaaPenA
import Derived.Deep.LoopGhost
namespace Go.Proofs.Ytamcllcjondcpaa
open Go.RowKit Go.Shelf
set_option maxRecDepth 100000
set_option linter.unusedSimpArgs false

theorem heap_twoR {w : World} {p : Nat} {x y : Value} {T : TypeId} (h : w.heap[p]? = some (.cells #[x, y] T (0, 0))) (u : Value) :
    (w.setCell ⟨p, 0, none⟩ u).heap[p]? = some (.cells #[u, y] T (0, 0)) ∧ (w.setCell ⟨p, 1, none⟩ u).heap[p]? = some (.cells #[x, u] T (0, 0)) := heap_two h u
/-- A row is laid into the reference's map. -/
theorem rk_store {w w2 : World} {q : Nat} {F : List Nat} {sz : Int} {v v' : Value} {L' : List Pt} (hb : w.heap[q]? = some (.cells #[.int .i64 sz, v] 41 (0, 0))) (hF : F = q :: v.ownBlock.toList) (hq : v.ownBlock ≠ some q) (k : Keeps v.ownBlock.toList w w2) (r : RowR w2 v' L') (n : NewRow w v v') (hl : L'.length ≤ 64) :
    ∃ F', RkAt (w2.setCell ⟨q, 1, none⟩ v') q F' ⟨sz, L'⟩ ∧ Keeps F w (w2.setCell ⟨q, 1, none⟩ v') ∧ ∀ b ∈ F', b ∈ F ∨ w.heap.size ≤ b := by
  have hqw := lt_of_block hb
  have hb2 := (k.block q hqw (by simpa using hq)).trans hb
  have hq' : v'.ownBlock ≠ some q := by
    rcases n with e | e
    · rw [e]; exact hq
    · intro h; have := e q h; omega
  have ks : Keeps [q] w2 (w2.setCell ⟨q, 1, none⟩ v') := (Keeps.refl [q] w2).setCell (Or.inl (by simp)) _
  refine ⟨q :: v'.ownBlock.toList, ⟨⟨v', (heap_twoR hb2 v').2, r.keep ks (fun b ho hm => by simp at hm; subst hm; exact hq' ho), hq', rfl⟩, hl⟩, ?_, fun b hm => ?_⟩
  · subst hF
    exact (k.mono (fun i _ h => List.mem_cons_of_mem _ h)).trans (ks.mono (fun i _ h => by simp at h; simp [h]))
  · subst hF
    rcases List.mem_cons.1 hm with rfl | hm
    · exact Or.inl (by simp)
    · rcases n with e | e
      · rw [e] at hm; exact Or.inl (List.mem_cons_of_mem _ hm)
      · exact Or.inr (e b (by simpa using hm))
theorem rfit_grow (L : List Pt) (j : Nat) : L ++ List.replicate (j + 1) pZ = (L ++ List.replicate j pZ) ++ [pZ] := by
  rw [List.append_assoc, List.replicate_succ']
theorem rfit_end (L : List Pt) (n : Nat) (j : Nat) (hj : j = n - L.length) : (L ++ List.replicate j pZ).take n = fitL L n := by
  unfold fitL
  subst hj
  rw [List.take_append]
  congr 1
  rw [List.take_of_length_le (by simp)]
set_option maxHeartbeats 6400000 in
theorem rFit_any {w : World} {q : Nat} {F : List Nat} {s : Bk} (h : RkAt w q F s) (h0 : 0 ≤ s.sz) (h1 : s.sz ≤ 4096) : Calls Try.prog 41 #[.pointer (some ⟨q, 0, none⟩)] w (RkPost w q F ⟨s.sz, fitL s.L (cnt s.sz)⟩ (.tuple #[])) := by
  have H := hid h
  obtain ⟨a, c, hb, hx1, hx2, hx3⟩ := h.cells
  clear hx1 hx2 hx3
  have c0 := (two_cells hb).1
  obtain ⟨n, hn⟩ : ∃ n : Nat, n = cnt s.sz := ⟨_, rfl⟩
  have hn64 : n ≤ 64 := by rw [hn]; exact cnt_le h1
  have hdiv : (s.sz + 63) / 64 = (n : Int) := by rw [hn]; unfold cnt; omega
  have q1 : s.sz + 64 - 1 = s.sz + 63 := by omega
  rw [← hn]
  have HF := hid h.few
  clear hb h hn
  obtain ⟨sz, L⟩ := s
  simp only at c0 h0 h1 hdiv q1 HF ⊢
  go_enter Try.func41, Try.ntmps41
  go_wp2_with fail
  rw [hdiv]
  clear c0 hdiv q1
  go_loopg [10] (n - L.length) (fun gg _ wr => ∃ (j : Nat) (F' : List Nat), j ≤ n - L.length ∧ n - L.length - j ≤ gg ∧ RkAt wr q F' ⟨sz, L ++ List.replicate j pZ⟩ ∧ Keeps F w wr ∧ ∀ b ∈ F', b ∈ F ∨ w.heap.size ≤ b)
  case atStart => exact ⟨0, F, Nat.zero_le _, by omega, by simpa using H.out, Keeps.refl _ _, fun b hb => Or.inl hb⟩
  case round =>
    obtain ⟨j, F', hj, hg, hr, hk, hf⟩ := hrel
    have R := hid hr
    have K := hid hk
    have FF := hid hf
    obtain ⟨a', c', hb, hrow, hq, hF⟩ := hr.cells
    have e4 : (L ++ List.replicate j pZ).length = L.length + j := by simp
    simp only [e4] at hb hrow hq hF
    have HB := hid hb
    have HROW := hid hrow
    have HQ := hid hq
    have HFE := hid hF
    obtain ⟨_, c1, _, f1⟩ := two_cells hb
    clear hb hrow hq hF hr hk hf e4
    by_cases hlt : L.length + j < n
    · have hI : ((L.length : Int) + (j : Int)) < (n : Int) := by omega
      have ka : Keeps [] wr (wr.alloc (.cells pZ.cells.toArray 47)) := (Keeps.refl [] wr).alloc _
      have e5 : (L ++ List.replicate j pZ).length = L.length + j := by simp
      have hrow2 : RowR (wr.alloc (.cells pZ.cells.toArray 47)) (.slice a' (L ++ List.replicate j pZ).length c') (L ++ List.replicate j pZ) := by rw [e5]; exact HROW.out.keep ka (by simp)
      obtain ⟨a2, c2, w2, hrun, r2, k2, n2⟩ := hrow2.append1 (by rw [e5]; omega) _ _ _ pZ (one_pts wr [] (by simp) pZ) 39
      rw [e5] at hrun r2 k2 n2
      have RUN := hid hrun
      have NR : NewRow wr (.slice a' (L.length + j) c') (.slice a2 (L.length + j + 1) c2) := n2.imp id (fun h b hb => Nat.le_trans (by simp) (h b hb))
      have KK : Keeps (Value.slice a' (L.length + j) c').ownBlock.toList wr w2 := (ka.mono (by simp)).trans k2
      have hbq := (KK.block q (lt_of_block HB.out) (by simpa using HQ.out)).trans HB.out
      obtain ⟨_, d1, _, g1⟩ := two_cells hbq
      have ST := hid (rk_store HB.out HFE.out HQ.out KK (by rw [← rfit_grow] at r2; exact r2) NR (by simp; omega))
      have KA := hid ka
      clear hrow2 hrun r2 k2 n2 NR KK hbq ka e5
      go_wp2_with (first | (refine wpList_is rfl _ _ (exec_buildPtZ rfl) ?_) | (refine wpList_is rfl _ _ (exec_onePt _ pZ rfl rfl) ?_) | (refine wpList_is rfl _ _ (exec_appendT 39 _ _ rfl rfl rfl RUN.out) ?_) | fail)
      obtain ⟨F2, r3, k3, f3⟩ := ST.out
      have R3 := hid r3
      have K3 := hid (K.out.trans' k3 (fun i hi hm => by
        rcases FF.out i hm with h | h
        · exact h
        · omega))
      have FF3 := hid (show ∀ b ∈ F2, b ∈ F ∨ w.heap.size ≤ b from fun b hb => by
        rcases f3 b hb with h | h
        · exact FF.out b h
        · exact Or.inr (Nat.le_trans K.out.size h))
      clear r3 k3 f3
      go_roundg (n - L.length - (j + 1))
      case measure => omega
      case rel => exact ⟨j + 1, F2, by omega, by omega, R3.out, K3.out, FF3.out⟩
    · have hI : ¬ ((L.length : Int) + (j : Int)) < (n : Int) := by omega
      have hge : n ≤ L.length + j := by omega
      have hje : j = n - L.length := by omega
      obtain ⟨hcut, hx, hcap⟩ := HROW.out.cut n (by simpa using hge)
      rw [rfit_end L n j hje] at hcut
      have CUT := hid (fun W => ptrs_cut a' (L.length + j) c' n (by simpa using hcap) hge W)
      obtain ⟨F2, r3, k3, f3⟩ := rk_store HB.out HFE.out HQ.out (Keeps.refl _ wr) hcut (Or.inl (by cases a' <;> rfl)) (by rw [fitL_len]; exact hn64)
      have R3 := hid r3
      have K3 := hid (K.out.trans' k3 (fun i hi hm => by
        rcases FF.out i hm with h | h
        · exact h
        · omega))
      have FF3 := hid (show ∀ b ∈ F2, b ∈ F ∨ w.heap.size ≤ b from fun b hb => by
        rcases f3 b hb with h | h
        · exact FF.out b h
        · exact Or.inr (Nat.le_trans K.out.size h))
      clear r3 k3 f3 hcut hcap hje hlt hx
      go_wp2_with (first | (refine wpList_is rfl _ _ (exec_sliceR 39 _ _ _ _ rfl (CUT.out _)) ?_) | fail)
      go_end0
      exact ⟨rfl, F2, R3.out, K3.out, FF3.out⟩
end Go.Proofs.Ytamcllcjondcpaa
