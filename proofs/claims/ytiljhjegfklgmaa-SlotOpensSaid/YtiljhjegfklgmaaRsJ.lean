/- Both slots side by side: Open, Get. -/
import Derived.Test.YtiljhjegfklgmaaRsI
import Derived.Test.YtiljhjegfklgmaaSlLB
namespace Go.Proofs.Ytiljhjegfklgmaa
open Go.RowKit Go.Shelf
set_option maxRecDepth 100000
set_option linter.unusedSimpArgs false

theorem goodS_or (s : DS) (first n : Nat) : goodS s first n ∨ ∃ k0, k0 < n ∧ (∀ j, j < k0 → hdE (s.now (first + j * 8)).1 = 0) ∧ hdE (s.now (first + k0 * 8)).1 = 4 := by
  induction n with
  | zero => exact .inl (fun j hj => absurd hj (by omega))
  | succ n ih =>
    rcases ih with h | ⟨k0, h1, h2, h3⟩
    · by_cases he : hdE (s.now (first + n * 8)).1 = 0
      · exact .inl (fun j hj => by
          by_cases e : j = n
          · rw [e]; exact he
          · exact h j (by omega))
      · refine .inr ⟨n, by omega, h, ?_⟩
        unfold hdE at he ⊢
        split
        · rename_i hs; rw [if_pos hs] at he; exact absurd rfl he
        · rfl
    · exact .inr ⟨k0, by omega, h2, h3⟩

/-- Open, on a disk that lives. -/
theorem lOpen_both (w : World) (p : Nat) (s : DS) (F : List Nat) (K : Nat) (D : DiskAt w p s F K) (first n : Nat) (hf : first ≤ s.cnt) (hn : n = (s.cnt - first) / 8) (hd : s.dead = false) :
    Calls Try.prog 9 #[.pointer (some ⟨p, 0, none⟩), .int .i64 first] w fun e w' => Keeps [] w w' ∧
      ((goodS s first n ∧ ∃ q g, e = .returned (.tuple #[.pointer (some ⟨q, 0, none⟩), .int .i64 0]) ∧ SlAt w' q p g first (headsS s first n) s F K ∧ w.heap.size ≤ q ∧ w.heap.size ≤ g) ∨ (¬ goodS s first n ∧ e = .returned (.tuple #[.pointer none, .int .i64 4]))) := by
  rcases goodS_or s first n with hg | ⟨k0, h1, h2, h3⟩
  · refine (lOpen_good w p s F K D first n hf hn hd hg).mono ?_
    rintro e w' ⟨q, g, rfl, h1, h2, h3, k⟩
    exact ⟨k, .inl ⟨hg, q, g, rfl, h1, h2, h3⟩⟩
  · refine (lOpen_bad w p s F K D first n hf hn hd k0 h1 h2 h3).mono ?_
    rintro e w' ⟨rfl, k⟩
    exact ⟨k, .inr ⟨fun hg => by have := hg k0 h1; omega, rfl⟩⟩

theorem lGet_any5 (w : World) (q p g first : Nat) (hs : List Hd) (s : DS) (F : List Nat) (K : Nat) (H : SlAt w q p g first hs s F K) (i : Int) :
    Calls Try.prog 14 #[.pointer (some ⟨q, 0, none⟩), .int .i64 i] w fun e w' => ∃ v, e = .returned (.tuple #[v, .int .i64 (getE hs s i)]) ∧ RowAt w' v (getX hs s first i) ∧ Keeps [] w w' := by
  by_cases ht : takeE hs i = 0
  · have hge : getE hs s i = deadE s := by unfold getE; rw [if_pos ht]
    rcases hasS_cases hs i with hno | ⟨k, rfl, hk, hyes⟩
    · unfold takeE at ht; rw [hno] at ht; simp at ht
    · have hu : usedS hs (k : Int) = true := by
        unfold takeE at ht
        rw [if_pos hyes] at ht
        cases h : usedS hs (k : Int) with
        | true => rfl
        | false => rw [h] at ht; simp at ht
      have hhk : headS hs (k : Int) = hs[k] := headS_at hk
      cases hd : s.dead with
      | true =>
        refine (lGet_dead w q p g first hs H.sl s F K H.dk hd (k : Int) ht).mono ?_
        rintro e w' ⟨rfl, k'⟩
        have e14 : getE hs s (k : Int) = 14 := by rw [hge]; unfold deadE; rw [hd]; rfl
        refine ⟨_, by rw [e14], ?_, k'⟩
        unfold getX
        rw [if_neg (by rw [e14]; omega)]
        exact RowAt.nil _
      | false =>
        have e0 : getE hs s (k : Int) = 0 := by rw [hge]; unfold deadE; rw [hd]; rfl
        refine (callsIn_wide.1 (get_in 9 (by omega) w q p g first hs s F K H k (first + k * 8) rfl hk (by rw [← hhk]; exact hu) hd)).mono ?_
        rintro e w' ⟨v, rfl, hr, _, k'⟩
        refine ⟨v, by rw [e0], ?_, k'⟩
        unfold getX
        rw [if_pos e0, hhk, Int.toNat_natCast]
        exact hr
  · refine (lGet_no w q p g first hs H.sl i ht).mono ?_
    rintro e w' ⟨rfl, k'⟩
    have hge : getE hs s i = takeE hs i := by unfold getE; rw [if_neg ht]
    refine ⟨_, by rw [hge], ?_, k'⟩
    unfold getX
    rw [if_neg (by rw [hge]; exact ht)]
    exact RowAt.nil _
theorem getX_len (hs : List Hd) (s : DS) (first : Nat) (i : Int) : (getX hs s first i).length ≤ 448 := by
  unfold getX
  split
  · unfold getB
    rw [List.length_take, imageL_len]
    omega
  · simp
end Go.Proofs.Ytiljhjegfklgmaa
