/- Plain facts on rows of bytes that are xor'd. -/
import Derived.Test.YtoglcohdanpciaaBase
import Derived.Laws.BitsAllLaws
namespace Go.Proofs.Ytoglcohdanpciaa
open Go.RowKit

def bx (a b : Int) : Int := ((a.toNat ^^^ b.toNat : Nat) : Int)
def byteB (z : Int) : Prop := 0 ≤ z ∧ z ≤ 255

theorem bx_is {a b : Int} (ha : byteB a) (hb : byteB b) : bits .xor .u8 a b = bx a b := u8_xor a b ha.1 (by have := ha.2; omega) hb.1 (by have := hb.2; omega)
theorem bx_byte {a b : Int} (ha : byteB a) (hb : byteB b) : byteB (bx a b) := by
  have h : a.toNat ^^^ b.toNat < 2 ^ 8 := Nat.xor_lt_two_pow (by have := ha.2; omega) (by have := hb.2; omega)
  unfold bx byteB
  omega
theorem bx_zero {a : Int} (ha : 0 ≤ a) : bx a 0 = a := by unfold bx; simp; omega
theorem byte_zero : byteB 0 := by unfold byteB; omega

theorem getD_byte {zs : List Int} (h : ∀ z ∈ zs, byteB z) (j : Nat) : byteB (zs.getD j 0) := by
  rw [List.getD_eq_getElem?_getD]
  by_cases hj : j < zs.length
  · rw [List.getElem?_eq_getElem hj]; exact h _ (List.getElem_mem hj)
  · rw [List.getElem?_eq_none (by omega)]; exact byte_zero

theorem ext_getD {a b : List Int} (hl : a.length = b.length) (h : ∀ j, j < a.length → a.getD j 0 = b.getD j 0) : a = b := by
  apply List.ext_getElem hl
  intro i h1 h2
  have := h i h1
  simpa [List.getD_eq_getElem?_getD, h1, h2] using this

theorem getD_beyond {zs : List Int} {j : Nat} (h : zs.length ≤ j) : zs.getD j 0 = 0 := by
  rw [List.getD_eq_getElem?_getD, List.getElem?_eq_none h]; rfl

/-- What s is when k places of r were mixed into it. -/
def mixK (s r : List Int) (k : Nat) : List Int := (List.range s.length).map fun j => if j < k then bx (s.getD j 0) (r.getD j 0) else s.getD j 0
def mixL (s r : List Int) : List Int := (List.range s.length).map fun j => bx (s.getD j 0) (r.getD j 0)

theorem mixK_length (s r : List Int) (k : Nat) : (mixK s r k).length = s.length := by simp [mixK]
theorem mixL_length (s r : List Int) : (mixL s r).length = s.length := by simp [mixL]
theorem mixK_getD (s r : List Int) (k j : Nat) (h : j < s.length) : (mixK s r k).getD j 0 = if j < k then bx (s.getD j 0) (r.getD j 0) else s.getD j 0 := by
  simp [mixK, List.getD_eq_getElem?_getD, h]
theorem mixL_getD (s r : List Int) (j : Nat) (h : j < s.length) : (mixL s r).getD j 0 = bx (s.getD j 0) (r.getD j 0) := by
  simp [mixL, List.getD_eq_getElem?_getD, h]
theorem mixK_zero (s r : List Int) : mixK s r 0 = s := ext_getD (mixK_length _ _ _) (fun j hj => by rw [mixK_length] at hj; rw [mixK_getD _ _ _ _ hj]; simp)
theorem mixK_all (s r : List Int) (k : Nat) (hs : ∀ z ∈ s, byteB z) (hk : s.length ≤ k ∨ r.length ≤ k) : mixK s r k = mixL s r := by
  refine ext_getD (by rw [mixK_length, mixL_length]) (fun j hj => ?_)
  rw [mixK_length] at hj
  rw [mixK_getD _ _ _ _ hj, mixL_getD _ _ _ hj]
  split
  · rfl
  · rw [getD_beyond (zs := r) (by omega), bx_zero (getD_byte hs j).1]
theorem mixK_set (s r : List Int) (k : Nat) : (mixK s r k).set k (bx (s.getD k 0) (r.getD k 0)) = mixK s r (k + 1) := by
  refine ext_getD (by simp [mixK_length]) (fun j hj => ?_)
  have hj' : j < s.length := by simpa [mixK_length] using hj
  rw [mixK_getD _ _ _ _ hj', List.getD_eq_getElem?_getD, List.getElem?_set]
  by_cases e : k = j
  · subst e
    simp [mixK_length, hj']
  · rw [if_neg e, ← List.getD_eq_getElem?_getD, mixK_getD _ _ _ _ hj']
    by_cases h1 : j < k
    · rw [if_pos h1, if_pos (by omega)]
    · rw [if_neg h1, if_neg (by omega)]
theorem mixK_byte {s r : List Int} (hs : ∀ z ∈ s, byteB z) (hr : ∀ z ∈ r, byteB z) (k : Nat) : ∀ z ∈ mixK s r k, byteB z := by
  intro z hz
  simp only [mixK, List.mem_map, List.mem_range] at hz
  obtain ⟨j, _, rfl⟩ := hz
  split
  · exact bx_byte (getD_byte hs j) (getD_byte hr j)
  · exact getD_byte hs j
theorem mixL_byte {s r : List Int} (hs : ∀ z ∈ s, byteB z) (hr : ∀ z ∈ r, byteB z) : ∀ z ∈ mixL s r, byteB z := by
  rw [← mixK_all s r s.length hs (Or.inl (Nat.le_refl _))]; exact mixK_byte hs hr _

/-- The rows' parity, in place j. -/
def xat (l : List (List Int)) (j : Nat) : Nat := l.foldl (fun a r => a ^^^ (r.getD j 0).toNat) 0
def xorN (n : Nat) (l : List (List Int)) : List Int := l.foldl mixL (List.replicate n 0)
def longest (l : List (List Int)) : Nat := l.foldl (fun m r => max m r.length) 0
def xorL (l : List (List Int)) : List Int := xorN (longest l) l
def BytesL (l : List (List Int)) : Prop := ∀ r ∈ l, ∀ z ∈ r, byteB z

theorem xat_snoc (l : List (List Int)) (r : List Int) (j : Nat) : xat (l ++ [r]) j = xat l j ^^^ (r.getD j 0).toNat := by simp [xat]
theorem xorN_snoc (n : Nat) (l : List (List Int)) (r : List Int) : xorN n (l ++ [r]) = mixL (xorN n l) r := by simp [xorN]
theorem longest_snoc (l : List (List Int)) (r : List Int) : longest (l ++ [r]) = max (longest l) r.length := by simp [longest]

theorem snoc_ind {α : Type} {P : List α → Prop} (h0 : P []) (hs : ∀ l r, P l → P (l ++ [r])) (l : List α) : P l := by
  have : ∀ l : List α, P l.reverse := by
    intro l
    induction l with
    | nil => exact h0
    | cons a l ih => rw [List.reverse_cons]; exact hs _ _ ih
  simpa using this l.reverse

theorem xorN_length (n : Nat) (l : List (List Int)) : (xorN n l).length = n := by
  refine snoc_ind (P := fun l => (xorN n l).length = n) (by simp [xorN]) (fun l r ih => ?_) l
  rw [xorN_snoc, mixL_length, ih]
theorem xorN_getD (n : Nat) (l : List (List Int)) (j : Nat) (h : j < n) : (xorN n l).getD j 0 = (xat l j : Int) := by
  refine snoc_ind (P := fun l => (xorN n l).getD j 0 = (xat l j : Int)) (by simp [xorN, xat, List.getD_eq_getElem?_getD, h]) (fun l r ih => ?_) l
  rw [xorN_snoc, mixL_getD _ _ _ (by rw [xorN_length]; exact h), ih, xat_snoc]
  simp [bx]
theorem xorN_byte (n : Nat) (l : List (List Int)) (h : BytesL l) : ∀ z ∈ xorN n l, byteB z := by
  revert h
  refine snoc_ind (P := fun l => BytesL l → ∀ z ∈ xorN n l, byteB z) ?_ (fun l r ih => ?_) l
  · intro _ z hz
    simp [xorN] at hz
    rw [hz.2]; exact byte_zero
  · intro h
    rw [xorN_snoc]
    exact mixL_byte (ih (fun q hq => h q (by simp [hq]))) (h r (by simp))
theorem xorN_take (n m : Nat) (l : List (List Int)) (h : n ≤ m) : (xorN m l).take n = xorN n l := by
  refine ext_getD (by rw [List.length_take, xorN_length, xorN_length]; omega) (fun j hj => ?_)
  have hj' : j < n := by rw [List.length_take] at hj; omega
  rw [xorN_getD _ _ _ hj', ← xorN_getD m l j (by omega), List.getD_eq_getElem?_getD, List.getElem?_take, if_pos hj', ← List.getD_eq_getElem?_getD]

theorem le_longest {l : List (List Int)} {r : List Int} (h : r ∈ l) : r.length ≤ longest l := by
  revert h
  refine snoc_ind (P := fun l => r ∈ l → r.length ≤ longest l) (by simp) (fun l q ih => ?_) l
  intro h
  rw [longest_snoc]
  rcases List.mem_append.1 h with h | h
  · have := ih h; omega
  · simp at h; subst h; omega
theorem longest_le {l : List (List Int)} {B : Nat} (h : ∀ r ∈ l, r.length ≤ B) : longest l ≤ B := by
  revert h
  refine snoc_ind (P := fun l => (∀ r ∈ l, r.length ≤ B) → longest l ≤ B) (by simp [longest]) (fun l q ih => ?_) l
  intro h
  rw [longest_snoc]
  have := ih (fun r hr => h r (by simp [hr]))
  have := h q (by simp)
  omega
theorem longest_sub {a b : List (List Int)} (h : ∀ r ∈ a, r ∈ b) : longest a ≤ longest b := longest_le fun r hr => le_longest (h r hr)
theorem longest_append (a b : List (List Int)) : longest (a ++ b) = max (longest a) (longest b) := by
  refine snoc_ind (P := fun b => longest (a ++ b) = max (longest a) (longest b)) (by simp [longest]) (fun b r ih => ?_) b
  rw [← List.append_assoc, longest_snoc, ih, longest_snoc]; omega
theorem xat_append (a b : List (List Int)) (j : Nat) : xat (a ++ b) j = xat a j ^^^ xat b j := by
  refine snoc_ind (P := fun b => xat (a ++ b) j = xat a j ^^^ xat b j) (by simp [xat]) (fun b r ih => ?_) b
  rw [← List.append_assoc, xat_snoc, ih, xat_snoc, Nat.xor_assoc]
theorem xat_one (r : List Int) (j : Nat) : xat [r] j = (r.getD j 0).toNat := by simp [xat]
theorem xat_beyond {l : List (List Int)} {j : Nat} (h : longest l ≤ j) : xat l j = 0 := by
  revert h
  refine snoc_ind (P := fun l => longest l ≤ j → xat l j = 0) (by simp [xat]) (fun l r ih => ?_) l
  intro h
  rw [longest_snoc] at h
  rw [xat_snoc, ih (by omega), getD_beyond (by omega)]; rfl

theorem xorL_length (l : List (List Int)) : (xorL l).length = longest l := xorN_length _ _
theorem xorL_getD (l : List (List Int)) (j : Nat) : (xorL l).getD j 0 = (xat l j : Int) := by
  by_cases h : j < longest l
  · exact xorN_getD _ _ _ h
  · rw [getD_beyond (by rw [xorL_length]; omega), xat_beyond (by omega)]; rfl
theorem xorL_byte {l : List (List Int)} (h : BytesL l) : ∀ z ∈ xorL l, byteB z := xorN_byte _ _ h
theorem xorL_xat (l : List (List Int)) (j : Nat) : ((xorL l).getD j 0).toNat = xat l j := by rw [xorL_getD]; rfl

/-- How the reference makes it. -/
def refStep (s r : List Int) : List Int := mixL (s ++ List.replicate (r.length - s.length) 0) r
theorem refStep_is (l : List (List Int)) (r : List Int) : refStep (xorL l) r = xorL (l ++ [r]) := by
  have hlen : (refStep (xorL l) r).length = longest (l ++ [r]) := by
    rw [refStep, mixL_length, List.length_append, List.length_replicate, xorL_length, longest_snoc]; omega
  refine ext_getD (by rw [hlen, xorL_length]) (fun j hj => ?_)
  rw [xorL_getD, xat_snoc]
  have hj' : j < (xorL l ++ List.replicate (r.length - (xorL l).length) (0 : Int)).length := by rw [refStep, mixL_length] at hj; exact hj
  rw [refStep, mixL_getD _ _ _ hj']
  have e : (xorL l ++ List.replicate (r.length - (xorL l).length) (0 : Int)).getD j 0 = (xorL l).getD j 0 := by
    by_cases h : j < (xorL l).length
    · rw [List.getD_eq_getElem?_getD, List.getElem?_append_left h, ← List.getD_eq_getElem?_getD]
    · rw [getD_beyond (zs := xorL l) (by omega), List.getD_eq_getElem?_getD, List.getElem?_append_right (by omega)]
      rw [List.length_append, List.length_replicate] at hj'
      rw [List.getElem?_replicate, if_pos (by omega)]; rfl
  rw [e, xorL_getD]
  simp [bx]
theorem refX_is (l : List (List Int)) : l.foldl refStep [] = xorL l := by
  refine snoc_ind (P := fun l => l.foldl refStep [] = xorL l) (by simp [xorL, xorN, longest]) (fun l r ih => ?_) l
  rw [List.foldl_append, ih]; exact refStep_is l r

def allZero (zs : List Int) : Prop := ∀ z ∈ zs, z = 0
theorem allZero_of {zs : List Int} (h : ∀ j, zs.getD j 0 = 0) : allZero zs := by
  intro z hz
  obtain ⟨j, hj, rfl⟩ := List.getElem_of_mem hz
  have := h j
  simpa [List.getD_eq_getElem?_getD, hj] using this
theorem allZero_xorL {l : List (List Int)} (h : ∀ j, xat l j = 0) : allZero (xorL l) := allZero_of (fun j => by rw [xorL_getD, h]; rfl)

theorem xat_split (l : List (List Int)) (i : Nat) (h : i < l.length) (j : Nat) : xat l j = xat (l.eraseIdx i) j ^^^ ((l.getD i []).getD j 0).toNat := by
  have e : l = l.take i ++ [l.getD i []] ++ l.drop (i + 1) := by
    rw [List.getD_eq_getElem?_getD, List.getElem?_eq_getElem h]
    simp
  have e2 : l.eraseIdx i = l.take i ++ l.drop (i + 1) := List.eraseIdx_eq_take_drop_succ ..
  rw [e2]
  conv => lhs; rw [e]
  rw [xat_append, xat_append, xat_one, xat_append, Nat.xor_assoc, Nat.xor_assoc, Nat.xor_comm (xat (l.drop (i + 1)) j)]

theorem xor_zero {a b : Nat} (h : a ^^^ b = 0) : a = b := by
  have : a ^^^ b ^^^ b = b := by rw [h]; simp
  rwa [Nat.xor_assoc, Nat.xor_self, Nat.xor_zero] at this

/-- P2.2: with their parity behind them rows hold. -/
theorem back_zero (l : List (List Int)) (j : Nat) : xat (l ++ [xorL l]) j = 0 := by rw [xat_snoc, xorL_xat, Nat.xor_self]
theorem back_len (l : List (List Int)) (i : Nat) (h : i < (l ++ [xorL l]).length) : ((l ++ [xorL l]).getD i []).length ≤ longest ((l ++ [xorL l]).eraseIdx i) := by
  by_cases hi : i < l.length
  · rw [List.eraseIdx_append_of_lt_length hi]
    have h1 : (l ++ [xorL l]).getD i [] = l[i] := by rw [List.getD_eq_getElem?_getD, List.getElem?_append_left hi, List.getElem?_eq_getElem hi]; rfl
    rw [h1, longest_snoc, xorL_length]
    have := le_longest (List.getElem_mem hi)
    omega
  · have : i = l.length := by simp at h; omega
    subst this
    rw [List.eraseIdx_append_of_length_le (Nat.le_refl _)]
    simp [xorL_length]
theorem back_fill (l : List (List Int)) (hb : BytesL l) (i : Nat) (h : i < (l ++ [xorL l]).length) :
    xorN ((l ++ [xorL l]).getD i []).length ((l ++ [xorL l]).eraseIdx i) = (l ++ [xorL l]).getD i [] := by
  refine ext_getD (xorN_length _ _) (fun j hj => ?_)
  rw [xorN_length] at hj
  rw [xorN_getD _ _ _ hj]
  have hz := back_zero l j
  rw [xat_split _ i h j] at hz
  replace hz := xor_zero hz
  have hbb : byteB (((l ++ [xorL l]).getD i []).getD j 0) := getD_byte (by
    intro z hz
    rw [List.getD_eq_getElem?_getD, List.getElem?_eq_getElem h] at hz
    have hm := List.getElem_mem h
    rcases List.mem_append.1 hm with hm | hm
    · exact hb _ hm z hz
    · simp only [List.mem_singleton] at hm
      simp only [Option.getD_some] at hz
      rw [hm] at hz
      exact xorL_byte hb z hz) j
  rw [hz]
  have := hbb.1
  omega
theorem turn_is (l : List (List Int)) (k : Nat) : xorL (l.drop k ++ l.take k) = xorL l := by
  conv => rhs; rw [← List.take_append_drop k l]
  refine ext_getD ?_ (fun j _ => ?_)
  · rw [xorL_length, xorL_length, longest_append, longest_append, Nat.max_comm]
  · rw [xorL_getD, xorL_getD, xat_append, xat_append, Nat.xor_comm]
theorem parts_is (l : List (List Int)) (k : Nat) : xorL [xorL (l.take k), xorL (l.drop k)] = xorL l := by
  conv => rhs; rw [← List.take_append_drop k l]
  refine ext_getD ?_ (fun j _ => ?_)
  · rw [xorL_length, xorL_length, longest_append]; simp [longest, xorL_length]
  · rw [xorL_getD, xorL_getD, xat_append, show ([xorL (l.take k), xorL (l.drop k)] : List (List Int)) = [xorL (l.take k)] ++ [xorL (l.drop k)] from rfl, xat_append, xat_one, xat_one, xorL_xat, xorL_xat]
theorem other_zero (l : List (List Int)) (i : Nat) (h : i < l.length) (b : List Int) (j : Nat) : xat [xorL l, xorL (l.set i b), l.getD i [], b] j = 0 := by
  have e1 := xat_split l i h j
  have e2 := xat_split (l.set i b) i (by simpa using h) j
  have e3 : (l.set i b).eraseIdx i = l.eraseIdx i := by simp [List.eraseIdx_set_eq]
  have e4 : (l.set i b).getD i [] = b := by simp [List.getD_eq_getElem?_getD, h]
  rw [e3, e4] at e2
  simp only [xat, List.foldl_cons, List.foldl_nil, Nat.zero_xor]
  rw [xorL_xat, xorL_xat, e1, e2]
  generalize xat (l.eraseIdx i) j = p
  generalize ((l.getD i []).getD j 0).toNat = q
  generalize (b.getD j 0).toNat = r
  rw [show p ^^^ q ^^^ (p ^^^ r) ^^^ q ^^^ r = (p ^^^ p) ^^^ (q ^^^ q) ^^^ (r ^^^ r) from by ac_rfl]
  simp
theorem one_is (b : List Int) (hb : ∀ z ∈ b, byteB z) : xorL [b] = b := by
  refine ext_getD (by rw [xorL_length]; simp [longest]) (fun j _ => ?_)
  rw [xorL_getD, xat_one]
  have := (getD_byte hb j).1
  omega
theorem two_zero (b : List Int) (j : Nat) : xat [b, b] j = 0 := by simp [xat]
end Go.Proofs.Ytoglcohdanpciaa
