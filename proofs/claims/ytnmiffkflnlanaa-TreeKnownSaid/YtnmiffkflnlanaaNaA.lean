/- Names and paths as lists of bytes: plain notions, no program. -/
import Derived.Lib.Bytealg
namespace Go.Proofs.Ytnmiffkflnlanaa

/-- May there be such a name? -/
def mayN (b : List UInt8) : Bool := decide (1 ≤ b.length ∧ b.length ≤ 12) && b != [46] && b != [46, 46] && b.all (fun c => c != 0 && c != 47)

/-- What is left of a path, the name that is being read, the names so far. -/
def scanN : List UInt8 → List UInt8 → List (List UInt8) → Option (List (List UInt8))
  | [], cur, acc => if mayN cur = true ∧ acc.length < 8 then some (acc ++ [cur]) else none
  | c :: r, cur, acc => if c = 47 then (if mayN cur = true ∧ acc.length < 8 then scanN r [] (acc ++ [cur]) else none) else scanN r (cur ++ [c]) acc

def splitN (p : List UInt8) : Option (List (List UInt8)) :=
  if p = [47] then some [] else match p with
  | c :: r => if c = 47 then scanN r [] [] else none
  | [] => none

def joinR (l : List (List UInt8)) : List UInt8 := l.flatMap (fun s => 47 :: s)
def joinN (l : List (List UInt8)) : List UInt8 := if l = [] then [47] else joinR l

def parentN (p : List UInt8) : List UInt8 × List UInt8 × Int :=
  match splitN p with
  | none => ([], [], 12)
  | some l => if l = [] then ([], [], 1) else (joinN l.dropLast, l.getLastD [], 0)

def withinN (a b : List UInt8) : Bool :=
  match splitN a, splitN b with
  | some x, some y => decide (y.length ≤ x.length) && decide (x.take y.length = y)
  | _, _ => false

theorem mayN_no47 {b : List UInt8} (h : mayN b = true) : ∀ c ∈ b, c ≠ 47 := by
  intro c hc
  unfold mayN at h
  simp only [Bool.and_eq_true, List.all_eq_true] at h
  have := h.2 c hc
  simp at this
  exact this.2
theorem mayN_len {b : List UInt8} (h : mayN b = true) : 1 ≤ b.length ∧ b.length ≤ 12 := by
  unfold mayN at h
  simp only [Bool.and_eq_true, decide_eq_true_eq] at h
  exact h.1.1.1

theorem scanN_full : ∀ (r cur : List UInt8) (acc : List (List UInt8)), 8 ≤ acc.length → scanN r cur acc = none
  | [], cur, acc, h => by rw [scanN, if_neg (by omega)]
  | c :: r, cur, acc, h => by
    rw [scanN]
    split
    · rw [if_neg (by omega)]
    · exact scanN_full r _ acc h

/-- Names that are joined are read as they are. -/
theorem scanN_name : ∀ (s r cur : List UInt8) (acc : List (List UInt8)), (∀ c ∈ s, c ≠ 47) → scanN (s ++ r) cur acc = scanN r (cur ++ s) acc
  | [], r, cur, acc, _ => by simp
  | c :: s, r, cur, acc, h => by
    rw [List.cons_append, scanN, if_neg (h c (List.mem_cons_self ..)), scanN_name s r _ acc (fun x hx => h x (List.mem_cons_of_mem _ hx))]
    simp

theorem scanN_joinR : ∀ (l : List (List UInt8)) (s : List UInt8) (acc : List (List UInt8)), mayN s = true → (∀ x ∈ l, mayN x = true) → acc.length + l.length + 1 ≤ 8 → scanN (s ++ joinR l) [] acc = some (acc ++ s :: l)
  | [], s, acc, hs, _, hl => by
    rw [joinR, List.flatMap_nil, scanN_name s [] [] acc (mayN_no47 hs), scanN, if_pos ⟨by simpa using hs, by simp at hl; omega⟩]
    simp
  | x :: l, s, acc, hs, h, hl => by
    have e : joinR (x :: l) = 47 :: (x ++ joinR l) := by simp [joinR]
    rw [e, scanN_name s _ [] acc (mayN_no47 hs), scanN, if_pos rfl, if_pos ⟨by simpa using hs, by simp at hl; omega⟩]
    rw [scanN_joinR l x _ (h x (List.mem_cons_self ..)) (fun y hy => h y (List.mem_cons_of_mem _ hy)) (by simp at hl ⊢; omega)]
    simp

theorem split_join {l : List (List UInt8)} (h : ∀ x ∈ l, mayN x = true) (hl : l.length ≤ 8) : splitN (joinN l) = some l := by
  cases l with
  | nil => rfl
  | cons x l =>
    have e : joinN (x :: l) = 47 :: (x ++ joinR l) := by simp [joinN, joinR]
    have hx := mayN_len (h x (List.mem_cons_self ..))
    rw [e, splitN, if_neg (by intro e2; simp at e2; have := e2.1; subst this; simp at hx)]
    simp only [if_true]
    rw [scanN_joinR l x [] (h x (List.mem_cons_self ..)) (fun y hy => h y (List.mem_cons_of_mem _ hy)) (by simp at hl ⊢; omega)]
    simp

/-- What was read, joined, is what was read. -/
theorem scanN_some : ∀ (r cur : List UInt8) (acc L : List (List UInt8)), scanN r cur acc = some L → (∀ x ∈ acc, mayN x = true) → acc.length ≤ 8 →
    (∀ x ∈ L, mayN x = true) ∧ L.length ≤ 8 ∧ L ≠ [] ∧ joinR L = joinR acc ++ 47 :: (cur ++ r) := by
  intro r
  induction r with
  | nil =>
    intro cur acc L h ha hl
    rw [scanN] at h
    split at h
    · rename_i hc
      cases h
      refine ⟨?_, by simp; omega, by simp, by simp [joinR]⟩
      intro x hx
      rcases List.mem_append.1 hx with hx | hx
      · exact ha x hx
      · simp at hx; subst hx; exact hc.1
    · cases h
  | cons c r ih =>
    intro cur acc L h ha hl
    rw [scanN] at h
    split at h
    · rename_i hc
      split at h
      · rename_i hm
        obtain ⟨h1, h2, h3, h4⟩ := ih _ _ _ h (fun x hx => by
          rcases List.mem_append.1 hx with hx | hx
          · exact ha x hx
          · simp at hx; subst hx; exact hm.1) (by simp; omega)
        refine ⟨h1, h2, h3, ?_⟩
        rw [h4, hc]
        simp [joinR]
      · cases h
    · obtain ⟨h1, h2, h3, h4⟩ := ih _ _ _ h ha hl
      exact ⟨h1, h2, h3, by rw [h4]; simp⟩

theorem splitN_some {p : List UInt8} {l : List (List UInt8)} (h : splitN p = some l) : (∀ x ∈ l, mayN x = true) ∧ l.length ≤ 8 ∧ joinN l = p := by
  unfold splitN at h
  split at h
  · rename_i e
    cases h
    exact ⟨by simp, by simp, by rw [e]; rfl⟩
  · split at h
    · rename_i c r hne
      split at h
      · rename_i hc
        obtain ⟨h1, h2, h3, h4⟩ := scanN_some _ _ _ _ h (by simp) (by simp)
        exact ⟨h1, h2, by rw [joinN, if_neg h3, h4, hc]; simp [joinR]⟩
      · cases h
    · cases h

theorem splitN_inj {p q : List UInt8} {l : List (List UInt8)} (h : splitN p = some l) (k : splitN q = some l) : p = q := by
  rw [← (splitN_some h).2.2, ← (splitN_some k).2.2]

theorem withinN_refl (a : List UInt8) : withinN a a = (splitN a).isSome := by
  unfold withinN
  cases splitN a <;> simp

theorem withinN_trans {a b c : List UInt8} (h : withinN a b = true) (k : withinN b c = true) : withinN a c = true := by
  unfold withinN at *
  cases ha : splitN a <;> cases hb : splitN b <;> cases hc : splitN c <;> simp_all
  obtain ⟨h1, h2⟩ := h
  obtain ⟨k1, k2⟩ := k
  refine ⟨by omega, ?_⟩
  rename_i x y z
  rw [← k2, ← h2, List.take_take]
  simp [Nat.min_eq_left k1]

theorem withinN_anti {a b : List UInt8} (h : withinN a b = true) (k : withinN b a = true) : a = b := by
  unfold withinN at *
  cases ha : splitN a <;> cases hb : splitN b <;> simp_all
  rename_i x y
  have hl : x.length = y.length := by omega
  have : x = y := by
    rw [← h.2, ← hl]; simp
  subst this
  exact splitN_inj ha hb

/-- Where the byte c is: none, if not among them. -/
theorem indexByte_neg (l : List UInt8) (c : UInt8) : Lib.indexByte l c < 0 ↔ ∀ x ∈ l, x ≠ c := by
  induction l with
  | nil => simp [Lib.indexByte]
  | cons b l ih =>
    have hg := Lib.indexByte_ge l c
    unfold Lib.indexByte
    by_cases hb : b = c
    · subst hb
      simp
    · rw [if_neg (by simpa using hb)]
      constructor
      · intro h
        have h1 : Lib.indexByte l c = -1 := by
          split at h
          · rename_i e; simpa using e
          · omega
        intro x hx
        rcases List.mem_cons.1 hx with rfl | hx
        · exact hb
        · exact ih.1 (by omega) x hx
      · intro h
        have := ih.2 (fun x hx => h x (List.mem_cons_of_mem _ hx))
        rw [if_pos (by simp; omega)]
        omega
end Go.Proofs.Ytnmiffkflnlanaa
