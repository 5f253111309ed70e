/- blocks: the reference's map: its row of its own. -/
import Derived.Test.YtamcllcjondcpaaBkP
namespace Go.Proofs.Ytamcllcjondcpaa
open Go.RowKit Go.Shelf
set_option maxRecDepth 100000
set_option linter.unusedSimpArgs false

/-- A row of the reference's own: what it is cut to may be less than its block. -/
def RowR (w : World) (v : Value) (L : List Pt) : Prop :=
  (v = .slice none 0 0 ∧ L = []) ∨ ∃ g cap cur, v = .slice (some ⟨g, 0, none⟩) L.length cap ∧ w.heap[g]? = some (.cells cur 47 (0, 0)) ∧ L.length ≤ cap ∧ cap ≤ maxLen ∧ cap * 5 ≤ cur.size ∧ cur.toList.take (L.length * 5) = pcells L
theorem RowR.shape {w : World} {v : Value} {L : List Pt} (h : RowR w v L) : ∃ a c, v = .slice a L.length c := by
  rcases h with ⟨rfl, rfl⟩ | ⟨g, cap, cur, rfl, _⟩
  · exact ⟨none, 0, rfl⟩
  · exact ⟨_, cap, rfl⟩
theorem RowR.lt {w : World} {v : Value} {L : List Pt} (h : RowR w v L) : ∀ b, v.ownBlock = some b → b < w.heap.size := by
  rcases h with ⟨rfl, rfl⟩ | ⟨g, cap, cur, rfl, hb, _⟩
  · intro b hb; cases hb
  · intro b hb2
    simp [Value.ownBlock] at hb2
    subst hb2
    exact lt_of_block hb
theorem RowR.keep {w w' : World} {S : List Nat} {v : Value} {L : List Pt} (h : RowR w v L) (k : Keeps S w w') (hs : ∀ b, v.ownBlock = some b → b ∉ S) : RowR w' v L := by
  rcases h with h | ⟨g, cap, cur, rfl, hb, h1, h2, h3, h4⟩
  · exact Or.inl h
  · exact Or.inr ⟨g, cap, cur, rfl, (k.block g (lt_of_block hb) (hs g rfl)).trans hb, h1, h2, h3, h4⟩
theorem RowR.at {w : World} {v : Value} {L : List Pt} (h : RowR w v L) : PtsAt w [] v L := by
  rcases h with ⟨rfl, rfl⟩ | ⟨g, cap, cur, rfl, hb, h1, h2, h3, h4⟩
  · exact PtsAt.nil _ _
  · refine ⟨_, cap, rfl, h1, h2, by simp, fun ad had => ⟨g, 0, (Option.some.inj had).symm, lt_of_block hb, by simp, fun j u hu => ?_⟩⟩
    rw [Nat.zero_add, cell_of_row _ _ _ _ _ _ hb, ← Array.getElem?_toList]
    have hj : j < L.length * 5 := by
      have := (List.getElem?_eq_some_iff.1 hu).1
      rwa [pcells_length] at this
    rw [← h4, List.getElem?_take, if_pos hj] at hu
    exact hu
theorem RowR.cut {w : World} {a : Option Addr} {len c : Nat} {L : List Pt} (h : RowR w (.slice a len c) L) (n : Nat) (hn : n ≤ L.length) : RowR w (.slice a n n) (L.take n) ∧ len = L.length ∧ L.length ≤ c := by
  have hlen : (L.take n).length = n := by rw [List.length_take]; omega
  rcases h with ⟨e, rfl⟩ | ⟨g, cap, cur, e, hb, h1, h2, h3, h4⟩
  · injection e with e1 e2 e3
    subst e1; subst e2; subst e3
    obtain rfl : n = 0 := by simpa using hn
    exact ⟨Or.inl ⟨rfl, rfl⟩, rfl, Nat.le_refl _⟩
  · injection e with e1 e2 e3
    subst e1; subst e2; subst e3
    refine ⟨Or.inr ⟨g, n, cur, by rw [hlen], hb, by omega, by omega, by omega, ?_⟩, rfl, h1⟩
    rw [hlen, pcells_take, ← h4, List.take_take, Nat.min_eq_left (by omega)]
theorem rowR_new (w : World) (L : List Pt) (cap : Nat) (h : L.length ≤ cap) (hc : cap ≤ maxLen) : RowR (w.drew.alloc (.cells ((pcells L).toArray ++ Builtin.zeroCells (ptV pZ).cells (cap - L.length)) 47)) (.slice (some ⟨w.heap.size, 0, none⟩) L.length cap) L := by
  have hs : (Builtin.zeroCells (ptV pZ).cells (cap - L.length)).size = (cap - L.length) * 5 := by
    rw [← Array.length_toList, zeros_pts, pcells_length]; simp
  refine Or.inr ⟨w.heap.size, cap, _, rfl, heap_alloc_new w.drew _, h, hc, ?_, ?_⟩
  · rw [Array.size_append, hs, List.size_toArray, pcells_length]; omega
  · rw [Array.toList_append]
    rw [List.take_append_of_le_length (by simp [pcells_length]), List.take_of_length_le (by simp [pcells_length])]
/-- append of one pointer onto such a row. -/
theorem RowR.append1 {w : World} {v : Value} {L : List Pt} (h : RowR w v L) (hl : L.length ≤ 64) (a : Option Addr) (n c : Nat) (x : Pt) (hs : PtsAt w [] (.slice a n c) [x]) (ty : TypeId) :
    ∃ a' c' w', (Builtin.append_ #[39, 39] ty #[v, .slice a n c]).run Try.prog w = .ok (.slice a' (L.length + 1) c') w' ∧ RowR w' (.slice a' (L.length + 1) c') (L ++ [x]) ∧ Keeps v.ownBlock.toList w w' ∧ NewRow w v (.slice a' (L.length + 1) c') := by
  obtain ⟨i, hi, hz, hz5, hz40⟩ := info_parts iPtr
  obtain ⟨g1, off1, rfl, hn, hcap1, _, _, hr1⟩ := hs.open (by simp)
  have hn1 : n = 1 := by simpa using hn
  subst hn1
  have hx5 : (pcells [x]).length = 1 * i.size := by rw [pcells_length, hz5]; rfl
  have hnews : ∀ j u, (pcells [x])[j]? = some u → w.cell? ((⟨g1, off1, none⟩ : Addr).add j) = some u := fun j u hu => by rw [Addr.add_lit]; exact hr1 j u hu
  have eL : (L ++ [x]).length = L.length + 1 := by simp
  rcases h with ⟨rfl, rfl⟩ | ⟨g, cap, cur, rfl, hb, h1, h2, h3, h4⟩
  · have hr2 := run_append_nil (P := Try.prog) w 39 ty 47 i _ Try.underlying39 hi hz ⟨g1, off1, none⟩ 1 c (pcells [x]) hx5 hnews (by omega) (by omega) (by rw [hz40]; omega)
    have R := rowR_new w [x] (grownCap w 1 0 47) (by simpa using grownCap_ge w 1 0 47) (grownCap_le_maxLen w 1 0 47 (by unfold maxLen; omega))
    exact ⟨_, _, _, hr2, R, ((Keeps.refl _ w).drew).alloc _, Or.inr (fun k hk => by simp [Value.ownBlock] at hk; omega)⟩
  · by_cases hroom : L.length + 1 ≤ cap
    · have hx : (pcells [x]).length = 5 := by rw [pcells_length]; rfl
      have hfit : L.length * i.size + (pcells [x]).length ≤ cur.size := by rw [hz5, hx]; omega
      have hr2 := run_append_room (P := Try.prog) w 39 ty 47 i Try.underlying39 hi g L.length cap cur hb ⟨g1, off1, none⟩ 1 c (pcells [x]) hx5 hnews (pcells_one _) hroom hfit
      obtain ⟨s1, s2⟩ := setRow_keepsP (cs := (cur.toList.take (L.length * i.size) ++ pcells [x] ++ cur.toList.drop (L.length * i.size + (pcells [x]).length)).toArray) hb
      refine ⟨_, _, _, hr2, Or.inr ⟨g, cap, _, by rw [eL], s1, by omega, h2, ?_, ?_⟩, s2.mono (by simp [Value.ownBlock]), Or.inl rfl⟩
      · rw [hz5, hx]
        simp only [List.size_toArray, List.length_append, List.length_take, List.length_drop, Array.length_toList, hx]
        omega
      · rw [hz5, hx, eL, pcells_append]
        simp only [List.append_assoc]
        rw [← List.append_assoc, ← h4]
        have e5 : (L.length + 1) * 5 = (cur.toList.take (L.length * 5) ++ pcells [x]).length := by
          have hcl : cur.toList.length = cur.size := Array.length_toList
          rw [List.length_append, List.length_take, hx]; omega
        rw [e5]
        exact List.take_left
    · have hcL : cap = L.length := by omega
      subst hcL
      have hold : ∀ j u, (pcells L)[j]? = some u → w.cell? ((⟨g, 0, none⟩ : Addr).add j) = some u := fun j u hu => by
        have hj : j < L.length * 5 := by
          have := (List.getElem?_eq_some_iff.1 hu).1
          rwa [pcells_length] at this
        rw [Addr.add_lit, Nat.zero_add, cell_of_row _ _ _ _ _ _ hb, ← Array.getElem?_toList]
        rw [← h4, List.getElem?_take, if_pos hj] at hu
        exact hu
      have hr2 := run_append_grow (P := Try.prog) w 39 ty 47 i _ Try.underlying39 hi hz ⟨g, 0, none⟩ L.length L.length (pcells L) (by rw [pcells_length, hz5]) hold ⟨g1, off1, none⟩ 1 c (pcells [x]) hx5 hnews (by omega) (by omega) (growslice_fits (by omega) (by rw [hz40]; omega))
      have R := rowR_new w (L ++ [x]) (grownCap w (L.length + 1) L.length 47) (by rw [eL]; exact grownCap_ge w _ _ 47) (grownCap_le_maxLen w _ _ 47 (by unfold maxLen; omega))
      rw [eL] at R
      have ea : (pcells (L ++ [x])).toArray = (pcells L).toArray ++ (pcells [x]).toArray := by rw [pcells_append]; simp
      rw [ea] at R
      exact ⟨_, _, _, hr2, R, ((Keeps.refl _ w).drew).alloc _, Or.inr (fun k hk => by simp [Value.ownBlock] at hk; omega)⟩
theorem RowR.set {w w' : World} {g cap : Nat} {L : List Pt} (h : RowR w (.slice (some ⟨g, 0, none⟩) L.length cap) L) (k : Nat) (hk : k < L.length) (x : Pt) :
    ∃ cur, w.heap[g]? = some (.cells cur 47 (0, 0)) ∧ k * 5 + 5 ≤ cur.size ∧ (w'.heap[g]? = some (.cells (cur.toList.take (k * 5) ++ x.cells ++ cur.toList.drop (k * 5 + 5)).toArray 47 (0, 0)) → RowR w' (.slice (some ⟨g, 0, none⟩) L.length cap) (L.set k x)) := by
  rcases h with ⟨e, rfl⟩ | ⟨g', cap', cur, e, hb, h1, h2, h3, h4⟩
  · simp at hk
  · injection e with e1 e2 e3
    injection e1 with e1
    injection e1 with e1
    subst e1; subst e3
    have hl : cap * 5 ≤ cur.toList.length := by simpa using h3
    have hfit : k * 5 + 5 ≤ cur.size := by omega
    refine ⟨cur, hb, hfit, fun hw => Or.inr ⟨g, cap, _, by simp, hw, by simpa using h1, h2, ?_, ?_⟩⟩
    · have : x.cells.length = 5 := rfl
      simp only [List.size_toArray, List.length_append, List.length_take, List.length_drop, this]
      omega
    · have lx : x.cells.length = 5 := rfl
      have e1 : L.set k x = L.take k ++ [x] ++ L.drop (k + 1) := by
        rw [List.set_eq_take_append_cons_drop, if_pos hk]
        simp
      rw [e1, pcells_append, pcells_append, pcells_take, pcells_drop, ← h4]
      simp only [List.length_append, List.length_take, List.length_drop, List.length_cons, List.length_nil]
      have lt1 : (cur.toList.take (k * 5)).length = k * 5 := by rw [List.length_take]; omega
      have e2 : pcells [x] = x.cells := by simp [pcells]
      have l3 : (cur.toList.take (k * 5) ++ x.cells).length = k * 5 + 5 := by rw [List.length_append, lt1, lx]
      have m0 : min k L.length + (0 + 1) + (L.length - (k + 1)) = L.length := by omega
      rw [e2, List.take_take, List.take_append, m0, l3, List.drop_take, List.take_of_length_le (by rw [l3]; omega), Nat.min_eq_left (by omega)]
      congr 1
      rw [show (k + 1) * 5 = k * 5 + 5 by omega]

/-- The reference's map. F: the blocks that it writes into. -/
structure RkAt (w : World) (q : Nat) (F : List Nat) (s : Bk) : Prop where
  ex : ∃ v, w.heap[q]? = some (.cells #[.int .i64 s.sz, v] 41 (0, 0)) ∧ RowR w v s.L ∧ v.ownBlock ≠ some q ∧ F = q :: v.ownBlock.toList
  few : s.L.length ≤ 64
theorem RkAt.lt {w : World} {q : Nat} {F : List Nat} {s : Bk} (h : RkAt w q F s) : ∀ b ∈ F, b < w.heap.size := by
  obtain ⟨⟨v, hb, hr, _, rfl⟩, _⟩ := h
  intro b hm
  rcases List.mem_cons.1 hm with rfl | hm
  · exact lt_of_block hb
  · exact hr.lt b (by simpa using hm)
theorem RkAt.keep {w w' : World} {q : Nat} {F S : List Nat} {s : Bk} (h : RkAt w q F s) (k : Keeps S w w') (hs : ∀ b ∈ F, b ∉ S) : RkAt w' q F s := by
  obtain ⟨⟨v, hb, hr, hq, rfl⟩, h2⟩ := h
  exact ⟨⟨v, (k.block q (lt_of_block hb) (hs q (by simp))).trans hb, hr.keep k (fun b hb => hs b (by simp [hb])), hq, rfl⟩, h2⟩
theorem RkAt.later {w w' : World} {q : Nat} {F : List Nat} {s : Bk} (h : RkAt w q F s) (k : Keeps [] w w') : RkAt w' q F s := h.keep k (by simp)
theorem RkAt.cells {w : World} {q : Nat} {F : List Nat} {s : Bk} (h : RkAt w q F s) : ∃ a c, w.heap[q]? = some (.cells #[.int .i64 s.sz, .slice a s.L.length c] 41 (0, 0)) ∧ RowR w (.slice a s.L.length c) s.L ∧ (Value.slice a s.L.length c).ownBlock ≠ some q ∧ F = q :: (Value.slice a s.L.length c).ownBlock.toList := by
  obtain ⟨⟨v, hb, hr, hq, e⟩, h2⟩ := h
  obtain ⟨a, c, rfl⟩ := hr.shape
  exact ⟨a, c, hb, hr, hq, e⟩
/-- What a call on it leaves. -/
def RkPost (w : World) (q : Nat) (F : List Nat) (s : Bk) (v : Value) (e : Ending) (w' : World) : Prop :=
  e = .returned v ∧ ∃ F', RkAt w' q F' s ∧ Keeps F w w' ∧ ∀ b ∈ F', b ∈ F ∨ w.heap.size ≤ b
theorem iRMap : (Try.prog.info? 41).map (fun i => (i.zero, i.size)) = some (some (.agg #[.int .i64 0, .slice none 0 0]), 2) := by kernel_rfl
theorem two_cells {w : World} {p : Nat} {x y : Value} {T : TypeId} (h : w.heap[p]? = some (.cells #[x, y] T (0, 0))) : w.cell? ⟨p, 0, none⟩ = some x ∧ w.cell? ⟨p, 1, none⟩ = some y ∧ w.frozen? ⟨p, 0, none⟩ = false ∧ w.frozen? ⟨p, 1, none⟩ = false := by
  simp [World.cell?, World.frozen?, h]
end Go.Proofs.Ytamcllcjondcpaa
