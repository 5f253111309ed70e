/- Mean: the sum from the left of those that are no NaN, divided by how many they are. -/
import Derived.Test.YtoffepagogmkkaaGrL
namespace Go.Proofs.Ytoffepagogmkkaa
open Go.RowKit

/-- The sum from the left, and of how many. -/
inductive SumL : List Nat → Nat → Nat → Prop
  | nil : SumL [] 0 0
  | nan {xs : List Nat} {s n x : Nat} : SumL xs s n → nanB x = true → SumL (xs ++ [x]) s n
  | num {xs : List Nat} {s n x s' : Nat} : SumL xs s n → nanB x = false → FAns (floatBits .add .f64 s x) s' → SumL (xs ++ [x]) s' (n + 1)

theorem SumL.le {xs : List Nat} {s n : Nat} (h : SumL xs s n) : n ≤ xs.length := by
  induction h with
  | nil => simp
  | nan _ _ ih => simp; omega
  | num _ _ _ ih => simp; omega
theorem SumL.snoc {ys : List Nat} {s n : Nat} (h : SumL ys s n) {xs : List Nat} {x : Nat} (e : ys = xs ++ [x]) :
    (nanB x = true ∧ SumL xs s n) ∨ (nanB x = false ∧ ∃ s' m, SumL xs s' m ∧ FAns (floatBits .add .f64 s' x) s ∧ n = m + 1) := by
  cases h with
  | nil => simp at e
  | nan h1 h2 =>
    obtain ⟨rfl, e2⟩ := List.append_inj' e rfl
    obtain rfl := List.singleton_inj.1 e2
    exact Or.inl ⟨h2, h1⟩
  | num h1 h2 h3 =>
    obtain ⟨rfl, e2⟩ := List.append_inj' e rfl
    obtain rfl := List.singleton_inj.1 e2
    exact Or.inr ⟨h2, _, _, h1, h3, rfl⟩
theorem SumL.nil_inv {ys : List Nat} {s n : Nat} (h : SumL ys s n) (e : ys = []) : s = 0 ∧ n = 0 := by
  cases h with
  | nil => exact ⟨rfl, rfl⟩
  | nan => simp at e
  | num => simp at e

/-- What Mean answers. -/
def MeanR (xs : List Nat) (r : Nat) : Prop := ∃ s n, SumL xs s n ∧ (n = 0 → r = 9221120237041090561) ∧ (0 < n → FAns (floatBits .quo .f64 s (floatOfInt .f64 n)) r)
def MeanPost (xs : List Nat) (w : World) (e : Ending) (w' : World) : Prop := ∃ r m, e = .returned (.float .f64 r) ∧ MeanR xs r ∧ w' = w.drewN m

theorem take_snoc' {α : Type} (xs : List α) (k : Nat) (h : k < xs.length) : xs.take (k + 1) = xs.take k ++ [xs[k]] := List.take_succ_eq_append_getElem h

set_option maxHeartbeats 4000000 in
theorem mean_any (w : World) (v : Value) (xs : List Nat) (hX : FloatsAt w v xs) : Calls Try.prog 18 #[v] w (MeanPost xs w) := by
  have HX := hid hX
  obtain ⟨a, cap, rfl, hm⟩ := hX.slice
  unfold maxLen at hm
  clear hX
  go_enter Try.func18, Try.ntmps18
  go_wp2_with fail
  go_loopw [3, 4, 9] (fun t u i wr => ∃ k s n m : Nat, k ≤ xs.length ∧ i = .int .i64 k ∧ t = .float .f64 s ∧ u = .int .i64 n ∧ n ≤ k ∧ SumL (xs.take k) s n ∧ wr = w.drewN m) (fun _ _ i _ => xs.length - (intOf i).toNat)
  case atStart => exact ⟨0, 0, 0, 0, Nat.zero_le _, rfl, rfl, rfl, Nat.le_refl _, .nil, rfl⟩
  case round =>
    obtain ⟨k, s, n, m, hk, rfl, rfl, rfl, hn, hs, rfl⟩ := hrel
    have HS := hid hs
    clear hs
    by_cases hlt : k < xs.length
    · obtain ⟨g, o, c, e1, hc⟩ := HX.out.open (by omega)
      injection e1 with e1 _ e3
      subst e1; subst e3
      have d1 := hc k hlt
      clear hc
      have HT := hid (take_snoc' xs k hlt)
      generalize hx : xs[k] = x at *
      cases hn : nanB x with
      | true =>
        have N := fun W => hn ▸ isnan_any x W
        have HN := hid hn
        clear hn hx
        go_wp2_with (go_at_call 19; refine (N _).mono ?_; rintro e w' ⟨rfl, rfl⟩)
        go_roundw
        case rel => exact ⟨k + 1, s, n, m, by omega, by go_num, rfl, rfl, by omega, by rw [HT.out]; exact HS.out.nan HN.out, rfl⟩
        case measure => simp [intOf]; omega
      | false =>
        have N := fun W => hn ▸ isnan_any x W
        have HN := hid hn
        clear hn hx
        go_wp2_with (first | (go_at_call 19; refine (N _).mono ?_; rintro e w' ⟨rfl, rfl⟩) | (refine wpList_float rfl .add (by simp) _ _ _ _ rfl _ _ rfl rfl ?_; intro s' m' hs'))
        go_roundw
        case rel => exact ⟨k + 1, s', n + 1, m + m', by omega, by go_num, rfl, by go_num, by omega, by rw [HT.out]; exact HS.out.num HN.out hs'.out, rfl⟩
        case measure => simp [intOf]; omega
    · have : k = xs.length := by omega
      subst this
      have HS' : Hid (SumL xs s n) := by rw [← List.take_length (l := xs)]; exact HS.out
      clear HS
      by_cases hn0 : n = 0
      · subst hn0
        go_wp2_with (go_at_call 25; refine (nan_any _).mono ?_; rintro e w' ⟨rfl, rfl⟩)
        go_ret
        exact ⟨_, _, rfl, ⟨s, 0, HS'.out, fun _ => rfl, fun h => absurd h (Nat.lt_irrefl _)⟩, rfl⟩
      · have hn1 : ((n : Int) == 0) = false := by rw [beq_eq_false_iff_ne]; omega
        go_wp2_with (refine wpList_float rfl .quo (by simp) _ _ _ _ rfl _ _ rfl rfl ?_; intro r m' hr)
        go_ret
        exact ⟨_, _, rfl, ⟨s, n, HS'.out, fun h => absurd h hn0, fun _ => hr.out⟩, rfl⟩
end Go.Proofs.Ytoffepagogmkkaa
