/- Joined names of which some may not be: what they are split into. -/
import Derived.Test.YtjahfnebnnkgfaaNaI
namespace Go.Proofs.Ytjahfnebnnkgfaa
open Go.RowKit

theorem scanN_gen : ∀ (l : List (List UInt8)) (s : List UInt8) (acc : List (List UInt8)), (∀ c ∈ s, c ≠ 47) → (∀ x ∈ l, ∀ c ∈ x, c ≠ 47) →
    scanN (s ++ joinR l) [] acc = if (mayN s = true ∧ ∀ x ∈ l, mayN x = true) ∧ acc.length + l.length + 1 ≤ 8 then some (acc ++ s :: l) else none
  | [], s, acc, hs, _ => by
    rw [joinR, List.flatMap_nil, scanN_name s [] [] acc hs, scanN, List.nil_append]
    by_cases h : mayN s = true ∧ acc.length < 8
    · rw [if_pos h, if_pos ⟨⟨h.1, by simp⟩, by simp; omega⟩]
    · rw [if_neg h, if_neg (fun g => h ⟨g.1.1, by have := g.2; simp at this; omega⟩)]
  | x :: l, s, acc, hs, hl => by
    have e : joinR (x :: l) = 47 :: (x ++ joinR l) := by simp [joinR]
    rw [e, scanN_name s _ [] acc hs, scanN, if_pos rfl, List.nil_append]
    rw [scanN_gen l x _ (hl x (List.mem_cons_self ..)) (fun y hy => hl y (List.mem_cons_of_mem _ hy))]
    by_cases h1 : mayN s = true ∧ acc.length < 8
    · rw [if_pos h1]
      by_cases h2 : (mayN x = true ∧ ∀ y ∈ l, mayN y = true) ∧ (acc ++ [s]).length + l.length + 1 ≤ 8
      · rw [if_pos h2, if_pos ⟨⟨h1.1, fun y hy => by
          rcases List.mem_cons.1 hy with rfl | hy
          · exact h2.1.1
          · exact h2.1.2 y hy⟩, by have := h2.2; simp at this ⊢; omega⟩]
        simp
      · rw [if_neg h2, if_neg (fun g => h2 ⟨⟨g.1.2 x (List.mem_cons_self ..), fun y hy => g.1.2 y (List.mem_cons_of_mem _ hy)⟩, by have := g.2; simp at this ⊢; omega⟩)]
    · rw [if_neg h1, if_neg (fun g => h1 ⟨g.1.1, by have := g.2; simp at this; omega⟩)]

theorem split_gen {L : List (List UInt8)} (h47 : ∀ x ∈ L, ∀ c ∈ x, c ≠ 47) (h0 : L ≠ [] → L.head? ≠ some [] ∨ 1 < L.length) : splitN (joinN L) = if (∀ x ∈ L, mayN x = true) ∧ L.length ≤ 8 then some L else none := by
  cases L with
  | nil => rw [if_pos ⟨by simp, by simp⟩]; rfl
  | cons s l =>
    have e : joinN (s :: l) = 47 :: (s ++ joinR l) := by simp [joinN, joinR]
    rw [e, splitN, if_neg (by
      intro e2
      simp at e2
      obtain ⟨e3, e4⟩ := e2
      rcases h0 (by simp) with h | h
      · rw [e3] at h; simp at h
      · cases l with
        | nil => simp at h
        | cons y l => simp [joinR] at e4)]
    simp only [if_true]
    rw [scanN_gen l s [] (h47 s (List.mem_cons_self ..)) (fun y hy => h47 y (List.mem_cons_of_mem _ hy))]
    by_cases h : (∀ x ∈ s :: l, mayN x = true) ∧ (s :: l).length ≤ 8
    · rw [if_pos h, if_pos ⟨⟨h.1 s (List.mem_cons_self ..), fun y hy => h.1 y (List.mem_cons_of_mem _ hy)⟩, by have := h.2; simp at this ⊢; omega⟩]
      simp
    · rw [if_neg h, if_neg (fun g => h ⟨fun x hx => by
        rcases List.mem_cons.1 hx with rfl | hx
        · exact g.1.1
        · exact g.1.2 x hx, by have := g.2; simp at this ⊢; omega⟩)]

/-- The name that the law makes at place i. -/
def nm (z : Int) (i : Nat) : List UInt8 := List.replicate (1 + ((z + i) % 14).toNat) 110
def nms (z : Int) (i : Nat) : List (List UInt8) := (List.range i).map (nm z)

theorem mayN_rep (k : Nat) : mayN (List.replicate (1 + k) 110) = decide (1 + k ≤ 12) := by
  rw [Bool.eq_iff_iff, decide_eq_true_eq]
  constructor
  · intro h
    have := (mayN_len h).2
    rwa [List.length_replicate] at this
  · intro h
    unfold mayN
    simp only [Bool.and_eq_true, decide_eq_true_eq, bne_iff_ne, List.length_replicate, List.all_eq_true]
    refine ⟨⟨⟨⟨by omega, h⟩, ?_⟩, ?_⟩, ?_⟩
    · intro e; have := congrArg (fun l => l.head?) e; simp [Nat.add_comm 1 k, List.replicate_succ] at this
    · intro e; have := congrArg (fun l => l.head?) e; simp [Nat.add_comm 1 k, List.replicate_succ] at this
    · intro x hx
      have := List.eq_of_mem_replicate hx
      subst this
      decide

theorem nms_succ (z : Int) (i : Nat) : nms z (i + 1) = nms z i ++ [nm z i] := by simp [nms, List.range_succ]
theorem nms_length (z : Int) (i : Nat) : (nms z i).length = i := by simp [nms]
theorem nms_47 (z : Int) (i : Nat) : ∀ x ∈ nms z i, ∀ c ∈ x, c ≠ 47 := by
  intro x hx c hc
  obtain ⟨j, _, rfl⟩ := List.mem_map.1 hx
  have := List.eq_of_mem_replicate hc
  subst this
  decide
theorem nms_len (z : Int) (i : Nat) : ∀ x ∈ nms z i, x.length ≤ 14 := by
  intro x hx
  obtain ⟨j, _, rfl⟩ := List.mem_map.1 hx
  unfold nm
  rw [List.length_replicate]
  omega
theorem nms_split (z : Int) (n : Nat) : splitN (joinN (nms z n)) = if (∀ x ∈ nms z n, mayN x = true) ∧ n ≤ 8 then some (nms z n) else none := by
  have := split_gen (nms_47 z n) (fun h => Or.inl (by
    cases n with
    | zero => exact absurd rfl h
    | succ n => simp [nms, List.range_succ_eq_map, nm, Nat.add_comm 1]))
  rwa [nms_length] at this
theorem nms_may (z : Int) (n : Nat) : (∀ x ∈ nms z n, mayN x = true) ↔ ¬ ∃ j, j < n ∧ 12 < 1 + ((z + j) % 14).toNat := by
  constructor
  · rintro h ⟨j, hj, h12⟩
    have := h (nm z j) (List.mem_map.2 ⟨j, List.mem_range.2 hj, rfl⟩)
    rw [nm, mayN_rep, decide_eq_true_eq] at this
    omega
  · intro h x hx
    obtain ⟨j, hj, rfl⟩ := List.mem_map.1 hx
    rw [nm, mayN_rep, decide_eq_true_eq]
    refine Nat.le_of_not_lt fun h12 => h ⟨j, List.mem_range.1 hj, h12⟩
theorem nms_slash (z : Int) (n : Nat) (h : n ≠ 0) : splitN (joinN (nms z n) ++ [47]) = none := by
  have hne : nms z n ≠ [] := fun e => h (by rw [← nms_length z n, e]; rfl)
  have e : joinN (nms z n) ++ [47] = joinN (nms z n ++ [[]]) := by
    rw [joinN, if_neg hne, joinN, if_neg (by simp)]
    simp [joinR]
  rw [e, split_gen (fun x hx => by
    rcases List.mem_append.1 hx with hx | hx
    · exact nms_47 z n x hx
    · simp at hx; subst hx; simp) (fun _ => Or.inr (by simp [nms_length]; omega)), if_neg]
  rintro ⟨g, _⟩
  have := g [] (by simp)
  exact absurd this (by decide)
theorem split_x (p : List UInt8) : splitN (120 :: p) = none := splitN_none (Or.inr (by simp))
end Go.Proofs.Ytjahfnebnnkgfaa
