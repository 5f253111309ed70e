/- With their parity behind them rows hold; each one is made again out of the others; the order does not matter (the law ParityBack): for every slice of rows and every turn the law returns true, and the rows read as they did. No condition. -/
import Derived.Test.YtoglcohdanpciaaPyTurns
namespace Go.Proofs.Ytoglcohdanpciaa
open Go.ChangeShapes Go.WideShapes Go.ChangeAt Go.RowKit

theorem own_keeps {w w' : World} {B : Nat} {e : TypeId} {v : Value} {n : Nat} {xs : List Value} (h : w.ownsRow B e 1 v n xs) (k : Keeps [] w w') : w'.ownsRow B e 1 v n xs := by
  refine ⟨h.1, ?_⟩
  rcases h.2 with hn | ⟨g, cap, cur, rfl, hb, hgg, rest⟩
  · exact Or.inl hn
  · refine Or.inr ⟨g, cap, cur, rfl, hb, ?_, rest⟩
    rw [k.block g (lt_of_block hgg) (by simp)]
    exact hgg

theorem cell_lit (w : World) (u : Value) (T : TypeId) : ∀ ad, some (⟨w.heap.size, 0, none⟩ : Addr) = some ad → ∀ j v, ([u] : List Value)[j]? = some v → (w.alloc (.cells #[u] T)).cell? (ad.add j) = some v := by
  rintro ad had j v hv
  obtain rfl := Option.some.inj had
  rw [Addr.add_lit, cell_of_row _ _ _ _ _ _ (heap_alloc_new w _), Nat.zero_add]
  simpa using hv

/-- What the walk wants to know of the rows. -/
theorem back_facts {w : World} {g o cap : Nat} {rs : List (El w)} (hR : RowsAt w (.slice (some ⟨g, o, none⟩) rs.length cap) rs)
    (hl : rs.length ≤ 40) (hm : longest (raws rs) ≤ 500) {k : Nat} (hk : k ≤ rs.length) :
    ∃ (zl : List Int) (at' ad' : Option Addr), zl = xorL (raws rs) ∧ zl.length ≤ 500 ∧
      (∀ w', Keeps [] w w' → Calls Try.prog 57 #[.slice (some ⟨g, o, none⟩) rs.length cap] w' (RowPost w' zl)) ∧
      (∀ W, (Instr.slice 26 (.slice (some ⟨g, o, none⟩) rs.length cap) none (some (.int .i64 (k : Int))) none).run Try.prog W = .ok (.slice at' k cap) W) ∧
      (∀ w', Keeps [] w w' → RowsAt w' (.slice at' k cap) (rs.take k)) ∧
      (∀ W, (Instr.slice 26 (.slice (some ⟨g, o, none⟩) rs.length cap) (some (.int .i64 (k : Int))) none none).run Try.prog W = .ok (.slice ad' (rs.length - k) (cap - k)) W) ∧
      (∀ w', Keeps [] w w' → RowsAt w' (.slice ad' (rs.length - k) (cap - k)) (rs.drop k)) ∧
      (∀ (w' : World) (a : Option Addr) (n c B : Nat), Keeps [] w w' → w'.ownsRow B 34 1 (.slice a n c) n (((rs.drop k).map fun r => r.1.1) ++ (rs.take k).map fun r => r.1.1) → Calls Try.prog 57 #[.slice a n c] w' (RowPost w' zl)) := by
  obtain ⟨at', _, s1, t1⟩ := rows_take hR k hk
  obtain ⟨ad', _, s2, t2⟩ := rows_drop hR k hk
  refine ⟨xorL (raws rs), at', ad', rfl, by rw [xorL_length]; exact hm, fun w' kk => xor_at kk _ rs (hR.keep kk) (by omega), s1, fun w' kk => t1 w' (hR.keep kk), s2, fun w' kk => t2 w' (hR.keep kk), ?_⟩
  intro w' a n c B kk h
  rw [← List.map_append] at h
  have := xor_at kk _ (rs.drop k ++ rs.take k) (rows_of_own h) (by rw [List.length_append, List.length_drop, List.length_take]; omega)
  have e : raws (rs.drop k ++ rs.take k) = (raws rs).drop k ++ (raws rs).take k := by unfold raws; rw [List.map_append, List.map_drop, List.map_take]
  rwa [e, turn_is] at this

/-- Rows with their parity behind them. -/
theorem all_facts {w : World} {rs : List (El w)} (hl : rs.length ≤ 40) (hm : longest (raws rs) ≤ 500) {w3 : World} (k3 : Keeps [] w w3) {x : Value} (hx : RowAt w3 x (xorL (raws rs))) :
    ∃ ks : List (El w3), ks.length = rs.length + 1 ∧ ks.map (fun r => r.1.1) = (rs.map fun r => r.1.1) ++ [x] ∧ (∀ r ∈ ks, r.1.2.length ≤ 500) ∧
      (∀ (w' : World) (v : Value), Keeps [] w3 w' → RowsAt w' v ks → Calls Try.prog 118 #[v] w' fun e w'' => e = .returned (.bool true) ∧ Keeps [] w' w'') ∧
      (∀ (i : Nat) (hi : i < ks.length) (w' : World) (v : Value), Keeps [] w3 w' → RowsAt w' v ks → Calls Try.prog 119 #[v, .int .i64 (i : Int), .int .i64 (ks[i].1.2.length : Int)] w' (FillPost w' (some ks[i].1.2))) := by
  have hxl : (xorL (raws rs)).length ≤ 500 := by rw [xorL_length]; exact hm
  obtain ⟨xe, hx1, hx2⟩ : ∃ e : El w3, e.1.1 = x ∧ e.1.2 = xorL (raws rs) := ⟨El.mk' hx (by omega), rfl, rfl⟩
  have er : raws (rs.map (El.keep k3) ++ [xe]) = raws rs ++ [xorL (raws rs)] := by rw [raws_snoc, raws_keep, hx2]
  have hlen : (rs.map (El.keep k3) ++ [xe]).length = rs.length + 1 := by simp
  refine ⟨rs.map (El.keep k3) ++ [xe], hlen, ?_, ?_, ?_, ?_⟩
  · rw [List.map_append, List.map_map, List.map_singleton, hx1]
    rfl
  · intro r hr
    rcases List.mem_append.1 hr with hr | hr
    · obtain ⟨y, hy, rfl⟩ := List.mem_map.1 hr
      exact Nat.le_trans (le_longest (l := raws rs) (r := y.1.2) (by simp only [raws, List.mem_map]; exact ⟨y, hy, rfl⟩)) hm
    · simp only [List.mem_singleton] at hr
      rw [hr, hx2]; exact hxl
  · intro w' v k h
    have := holds_at k v _ h (by omega)
    rwa [er, zeroB_of (allZero_xorL (back_zero _))] at this
  · intro i hi w' v k h
    have := fill_at k v _ h (by omega) i ((rs.map (El.keep k3) ++ [xe])[i].1.2.length : Int)
    have e1 := raws_at (rs.map (El.keep k3) ++ [xe]) hi
    rw [er] at this e1
    have h2 := back_len (raws rs) i (by rw [← er]; simpa [raws] using hi)
    have h3 := back_fill (raws rs) (raws_byte rs) i (by rw [← er]; simpa [raws] using hi)
    rw [e1] at h2 h3
    have hF : fillM (raws rs ++ [xorL (raws rs)]) i ((rs.map (El.keep k3) ++ [xe])[i].1.2.length : Int) = some (rs.map (El.keep k3) ++ [xe])[i].1.2 := by
      unfold fillM
      have h4 : (raws rs ++ [xorL (raws rs)]).length = rs.length + 1 := by simp [raws]
      rw [if_pos (by rw [Int.toNat_natCast, h4]; omega), Int.toNat_natCast, Int.toNat_natCast, h3]
    rwa [hF] at this
end Go.Proofs.Ytoglcohdanpciaa
