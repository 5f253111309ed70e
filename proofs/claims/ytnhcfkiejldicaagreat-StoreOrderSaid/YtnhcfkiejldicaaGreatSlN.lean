/- Slots: what is refused; a disk that no fuse kills: what Put and Clear leave on it. -/
import Derived.Test.YtnhcfkiejldicaaGreatSlL
namespace Go.Proofs.YtnhcfkiejldicaaGreat
open Go.RowKit Go.Shelf

set_option maxRecDepth 100000 in
set_option maxHeartbeats 3200000 in
theorem lGet_no (w : World) (q p g first : Nat) (hs : List Hd) (S : SlotsAt w q p g first hs) (i : Int) (ht : takeE hs i ≠ 0) :
    Calls Tryz.prog 40 #[.pointer (some ⟨q, 0, none⟩), .int .i64 i] w fun e w' => e = .returned (.tuple #[.slice none 0 0, .int .i64 (takeE hs i)]) ∧ Keeps [] w w' := by
  have HS := hid S
  have tb : (takeE hs i != 0) = true := by simpa using ht
  obtain ⟨te, hte⟩ : ∃ x, x = takeE hs i := ⟨_, rfl⟩
  rw [← hte] at tb ⊢
  have HTE := hid hte
  clear ht hte S
  have kA : Keeps [] w (((w.alloc (.cells #[.pointer (some ⟨q, 0, none⟩)] 54)).alloc (.cells #[.slice none 0 0] 22)).alloc (.cells #[.int .i64 0] 25)) := (((Keeps.refl [] w).alloc _).alloc _).alloc _
  have b1 : (((w.alloc (.cells #[.pointer (some ⟨q, 0, none⟩)] 54)).alloc (.cells #[.slice none 0 0] 22)).alloc (.cells #[.int .i64 0] 25)).heap[w.heap.size + 1]? = some (.cells #[.slice none 0 0] 22 (0, 0)) := by
    refine (Below.heap_alloc _ _ _ (by simp)).trans ?_
    exact heap_alloc2_new w _ _
  have b2 : (((w.alloc (.cells #[.pointer (some ⟨q, 0, none⟩)] 54)).alloc (.cells #[.slice none 0 0] 22)).alloc (.cells #[.int .i64 0] 25)).heap[w.heap.size + 2]? = some (.cells #[.int .i64 0] 25 (0, 0)) := by
    have := heap_alloc_new ((w.alloc (.cells #[.pointer (some ⟨q, 0, none⟩)] 54)).alloc (.cells #[.slice none 0 0] 22)) (.cells #[.int .i64 0] 25)
    simpa using this
  have KA := hid kA
  have B1 := hid b1
  have B2 := hid b2
  clear kA b1 b2
  go_enter Tryz.func40, Tryz.ntmps40
  go_wp2_with fail
  generalize ((w.alloc (.cells #[.pointer (some ⟨q, 0, none⟩)] 54)).alloc (.cells #[.slice none 0 0] 22)).alloc (.cells #[.int .i64 0] 25) = wA at KA B1 B2 ⊢
  have c1 : wA.cell? ⟨w.heap.size + 1, 0, none⟩ = some (.slice none 0 0) := cell_of_row _ _ 0 _ _ (0, 0) B1.out
  have f1 : wA.frozen? ⟨w.heap.size + 1, 0, none⟩ = false := by simp [World.frozen?, B1.out]
  have X2 := (Below.heap_setCell wA ⟨w.heap.size + 1, 0, none⟩ (.slice none 0 0) (w.heap.size + 2) (show w.heap.size + 2 ≠ w.heap.size + 1 by omega)).trans B2.out
  have c2 : (wA.setCell ⟨w.heap.size + 1, 0, none⟩ (.slice none 0 0)).cell? ⟨w.heap.size + 2, 0, none⟩ = some (.int .i64 0) := cell_of_row _ _ 0 _ _ (0, 0) X2
  have f2 : (wA.setCell ⟨w.heap.size + 1, 0, none⟩ (.slice none 0 0)).frozen? ⟨w.heap.size + 2, 0, none⟩ = false := by simp [World.frozen?, X2]
  have X2H := hid X2
  clear X2
  have TK := lTake_any wA q p g first hs (HS.out.keep KA.out (by simp) (by simp)) i
  rw [← HTE.out] at TK
  have TKH := hid TK
  clear TK
  refine TKH.out.mono ?_
  rintro e w1 ⟨rfl, rfl⟩
  go_wp2_with fail
  have y1 : ((wA.setCell ⟨w.heap.size + 1, 0, none⟩ (.slice none 0 0)).setCell ⟨w.heap.size + 2, 0, none⟩ (.int .i64 te)).heap[w.heap.size + 1]? = some (.cells #[.slice none 0 0] 22 (0, 0)) :=
    (Below.heap_setCell _ _ _ _ (show w.heap.size + 1 ≠ w.heap.size + 2 by omega)).trans (heap_setCell_same _ _ _ _ _ _ B1.out)
  have y2 : ((wA.setCell ⟨w.heap.size + 1, 0, none⟩ (.slice none 0 0)).setCell ⟨w.heap.size + 2, 0, none⟩ (.int .i64 te)).heap[w.heap.size + 2]? = some (.cells #[.int .i64 te] 25 (0, 0)) := heap_setCell_same _ _ _ _ _ _ X2H.out
  refine bodyPost_ret (results_cells2 rfl _ _ ⟨w.heap.size + 1, 0, none⟩ ⟨w.heap.size + 2, 0, none⟩ (.slice none 0 0) (.int .i64 te) rfl rfl (loadSl_var (cell_of_row _ _ 0 _ _ (0, 0) y1)) (loadErr_var (cell_of_row _ _ 0 _ _ (0, 0) y2))) rfl ?_
  exact ⟨rfl, (KA.out.setCell (Or.inr (show w.heap.size ≤ w.heap.size + 1 by omega)) _).setCell (Or.inr (show w.heap.size ≤ w.heap.size + 2 by omega)) _⟩

theorem lOpen_nil (first : Int) (w : World) : Calls Tryz.prog 46 #[.pointer none, .int .i64 first] w fun e w' => e = .returned (.tuple #[.pointer none, .int .i64 1]) ∧ w = w' := by
  go_enter Tryz.func46, Tryz.ntmps46
  go_wp2_with fail
  go_ret2
  exact ⟨rfl, rfl⟩
theorem lOpen_arg (w : World) (p : Nat) (s : DS) (F : List Nat) (K : Nat) (D : DiskAt w p s F K) (first : Nat) (hf : s.cnt < first) : Calls Tryz.prog 46 #[.pointer (some ⟨p, 0, none⟩), .int .i64 first] w fun e w' => e = .returned (.tuple #[.pointer none, .int .i64 1]) ∧ w = w' := by
  have SC := hid (sectorsAt_any w p s F K D)
  have t1 : (s.cnt : Int) < (first : Int) := by omega
  clear D hf
  go_enter Tryz.func46, Tryz.ntmps46
  go_wp2_with fail
  refine SC.out.mono ?_
  rintro e _ ⟨rfl, rfl⟩
  go_wp2_with fail
  go_ret2
  exact ⟨rfl, rfl⟩

/-- A disk that lives, and that no fuse will kill. -/
def Alive (s : DS) : Prop := s.dead = false ∧ s.fuse < 0
theorem Alive.write {s : DS} (h : Alive s) {n : Nat} {zs : List Int} (hn : n < s.cnt) (hz : zs.length = 64) : Alive (writeS s n zs) ∧ (writeS s n zs).now = upd s.now n (mkRow zs) := by
  obtain ⟨h1, h2⟩ := h
  have ht : s.takes n zs.length := ⟨h1, by omega, by omega, hz⟩
  have hf : s.fuse ≠ 0 := by omega
  have hp : ¬ 0 < s.fuse := by omega
  simp only [writeS, if_pos ht, DS.wrote, if_neg hf, DS.spent, if_neg hp, Alive, Int.toNat_natCast]
  exact ⟨⟨h1, h2⟩, trivial⟩
theorem Alive.sync {s : DS} (h : Alive s) : Alive (syncS s) ∧ (syncS s).now = s.now := by
  obtain ⟨h1, h2⟩ := h
  have hf : s.fuse ≠ 0 := by omega
  have hp : ¬ 0 < s.fuse := by omega
  simp only [syncS, h1, Bool.false_eq_true, if_false, if_neg hf, DS.synced, DS.spent, if_neg hp, Alive]
  exact ⟨⟨trivial, h2⟩, trivial⟩
theorem Alive.holdW {s : DS} (h : Alive s) (n : Nat) (b : List Int) : ∀ k, n + k ≤ s.cnt → Alive (holdW s n b k) ∧ ∀ j, (holdW s n b k).now j = if n ≤ j ∧ j < n + k then mkRow (pad64 (chk b (j - n))) else s.now j
  | 0, _ => ⟨h, fun j => by rw [if_neg (by omega)]; rfl⟩
  | k + 1, hk => by
    obtain ⟨a1, a2⟩ := Alive.holdW h n b k (by omega)
    obtain ⟨b1, b2⟩ := a1.write (n := n + k) (zs := pad64 (chk b k)) (by rw [holdW_cnt]; omega) (pad64_len (chk_le b k))
    refine ⟨b1, fun j => ?_⟩
    show (writeS (Go.Proofs.YtnhcfkiejldicaaGreat.holdW s n b k) ((n + k : Nat) : Int) (pad64 (chk b k))).now j = _
    rw [b2]
    by_cases e : j = n + k
    · subst e
      rw [upd_same, if_pos (by omega)]
      congr 3
      omega
    · rw [upd_ne _ _ e, a2]
      by_cases h2 : n ≤ j ∧ j < n + k
      · rw [if_pos h2, if_pos (by omega)]
      · rw [if_neg h2, if_neg (by omega)]
theorem Alive.hold {s : DS} (h : Alive s) (n : Nat) (b : List Int) (hn : n + nch b.length ≤ s.cnt) : Alive (holdS s n b) ∧ ∀ j, (holdS s n b).now j = if n ≤ j ∧ j < n + nch b.length then mkRow (pad64 (chk b (j - n))) else s.now j := by
  obtain ⟨a1, a2⟩ := h.holdW n b (nch b.length) hn
  obtain ⟨b1, b2⟩ := a1.sync
  exact ⟨b1, fun j => by rw [holdS, b2]; exact a2 j⟩
theorem Alive.mark {s : DS} (h : Alive s) (n : Nat) (hd : Hd) (ok : hd.Ok) (hn : n < s.cnt) : Alive (markS s n hd) ∧ (markS s n hd).now = upd s.now n (mkRow (pad64 (headB hd))) := by
  obtain ⟨a1, a2⟩ := h.write (n := n) (zs := pad64 (headB hd)) hn (pad64_len (by have := headB_len hd ok; omega))
  obtain ⟨b1, b2⟩ := a1.sync
  exact ⟨b1, by rw [markS, b2, a2]⟩
theorem Alive.put {s : DS} (h : Alive s) (bg : Nat) (key b : List Int) (ok : Hd.Ok ⟨true, b.length, key⟩) (hn : bg + 8 ≤ s.cnt) : Alive (putD s bg key b) ∧
    ∀ j, (putD s bg key b).now j = if j = bg then mkRow (pad64 (headB ⟨true, b.length, key⟩)) else if bg + 1 ≤ j ∧ j < bg + 1 + nch b.length then mkRow (pad64 (chk b (j - (bg + 1)))) else s.now j := by
  have hb : b.length ≤ 448 := ok.held
  have h7 : nch b.length ≤ 7 := by unfold nch; omega
  obtain ⟨a1, a2⟩ := h.hold (bg + 1) b (by omega)
  obtain ⟨b1, b2⟩ := a1.mark bg ⟨true, b.length, key⟩ ok (by rw [holdS_cnt]; omega)
  refine ⟨b1, fun j => ?_⟩
  rw [putD, b2]
  by_cases e : j = bg
  · subst e; rw [upd_same, if_pos rfl]
  · rw [upd_ne _ _ e, if_neg e, a2]
theorem Alive.deadE {s : DS} (h : Alive s) : deadE s = 0 := by simp [Go.Proofs.YtnhcfkiejldicaaGreat.deadE, h.1]

theorem image_chk (f : Nat → Row) (b : List Int) (hf : ∀ j, j < nch b.length → (f j).1 = pad64 (chk b j)) : ∀ k, k ≤ nch b.length → (imageL f k).take b.length = b.take (k * 64)
  | 0, _ => by simp [imageL]
  | k + 1, hk => by
    have ih := image_chk f b hf k (by omega)
    have hlt : k * 64 < b.length := by unfold nch at hk; omega
    have hI := imageL_len f k
    have e : imageL f (k + 1) = imageL f k ++ (f k).1 := by
      unfold imageL
      rw [List.range_succ, List.flatMap_append]
      simp
    rw [List.take_of_length_le (by omega)] at ih
    rw [e, hf k (by omega), List.take_append, List.take_of_length_le (by omega), ih, List.length_take, Nat.min_eq_left (by omega)]
    have e2 : (k + 1) * 64 = k * 64 + 64 := by omega
    rw [e2, List.take_add]
    congr 1
    show (pad64 (chk b k)).take (b.length - k * 64) = chk b k
    have hc := chk_len b k
    unfold pad64
    by_cases h2 : b.length - k * 64 ≤ 64
    · have : (chk b k).length = b.length - k * 64 := by rw [hc]; unfold csz; omega
      rw [List.take_append_of_le_length (by omega), List.take_of_length_le (by omega)]
    · have : (chk b k).length = 64 := by rw [hc]; unfold csz; omega
      rw [this, Nat.sub_self, List.replicate_zero, List.append_nil, List.take_of_length_le (by omega)]

/-- What was put is what is read. -/
theorem getB_chk (s : DS) (bg : Nat) (b : List Int) (hb : b.length ≤ 448) (hby : ∀ z ∈ b, 0 ≤ z ∧ z ≤ 255) (hf : ∀ j, j < nch b.length → s.now (bg + 1 + j) = mkRow (pad64 (chk b j))) : getB s bg b.length = b := by
  have hbyc : ∀ j, ∀ z ∈ chk b j, 0 ≤ z ∧ z ≤ 255 := fun j z hz => hby z (List.mem_of_mem_drop (List.mem_of_mem_take hz))
  have hh := image_chk (fun j => s.now (bg + 1 + j)) b (fun j hj => by rw [hf j hj]; exact mkRow_is (pad64_len (chk_le b j)) (pad64_byte (hbyc j))) (nch b.length) (Nat.le_refl _)
  have h7 : nch b.length + (7 - nch b.length) = 7 := by unfold nch; omega
  rw [getB, ← h7, imageL_take _ _ _ (by unfold nch; omega), hh, List.take_of_length_le (by unfold nch; omega)]
theorem getB_put {s : DS} (h : Alive s) (bg : Nat) (key b : List Int) (ok : Hd.Ok ⟨true, b.length, key⟩) (hn : bg + 8 ≤ s.cnt) (hby : ∀ z ∈ b, 0 ≤ z ∧ z ≤ 255) : getB (putD s bg key b) bg b.length = b := by
  refine getB_chk _ bg b ok.held hby fun j hj => ?_
  rw [(h.put bg key b ok hn).2, if_neg (by omega), if_pos (by omega)]
  congr 3
  omega
end Go.Proofs.YtnhcfkiejldicaaGreat
