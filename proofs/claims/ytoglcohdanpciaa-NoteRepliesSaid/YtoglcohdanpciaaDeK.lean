/- delta: numbers written and read, plainly: what is written is read, and what is read was written. -/
import Derived.Test.YtoglcohdanpciaaDeJ
import Derived.Test.YtoglcohdanpciaaDeH
import Derived.Test.YtoglcohdanpciaaJR
import Derived.Test.YtoglcohdanpciaaNumK
namespace Go.Proofs.Ytoglcohdanpciaa
open Go.RowKit Go.Shelf
set_option maxRecDepth 100000
set_option linter.unusedSimpArgs false

/-- A pointer's bytes. -/
def bytesP (x : Pt) : List Int := be x.c 1 ++ be x.l 3 ++ be x.n 4 ++ be x.a 2 ++ be x.k 1
/-- A delta's bytes. -/
def headB12 (x : Dl) : List Int := be x.d 1 ++ be x.i 2 ++ be x.b 1 ++ be x.s 2
def bytesD (x : Dl) : List Int := headB12 x ++ (if x.d = 1 then bytesP x.t else if x.d = 3 then bytesP x.o ++ bytesP x.t else [])
structure FitP (x : Pt) : Prop where
  c : FitN x.c 1
  l : FitN x.l 3
  n : FitN x.n 4
  a : FitN x.a 2
  k : FitN x.k 1
theorem mayP_fit {x : Pt} (h : mayP x = true) : (0 ≤ x.c ∧ x.c < 256) ∧ (0 ≤ x.l ∧ x.l < 16777216) ∧ (0 ≤ x.n ∧ x.n < 4294967296) ∧ (0 ≤ x.a ∧ x.a < 65536) ∧ (0 ≤ x.k ∧ x.k < 256) := by
  unfold mayP at h
  rcases Bool.or_eq_true _ _ ▸ h with h | h
  · unfold zB at h
    have e := of_decide_eq_true h
    subst e
    decide
  · simp only [Bool.and_eq_true, btw, decide_eq_true_eq] at h
    omega
theorem fitP_of {x : Pt} (h : mayP x = true) : FitP x := by
  obtain ⟨⟨a1, a2⟩, ⟨b1, b2⟩, ⟨c1, c2⟩, ⟨d1, d2⟩, ⟨f1, f2⟩⟩ := mayP_fit h
  exact ⟨⟨by decide, by decide, a1, by show x.c < 256; exact a2⟩, ⟨by decide, by decide, b1, by show x.l < 16777216; exact b2⟩, ⟨by decide, by decide, c1, by show x.n < 4294967296; exact c2⟩, ⟨by decide, by decide, d1, by show x.a < 65536; exact d2⟩, ⟨by decide, by decide, f1, by show x.k < 256; exact f2⟩⟩
theorem bytesP_len (x : Pt) : (bytesP x).length = 11 := by simp [bytesP, be_length]
theorem headB_len (x : Dl) : (headB12 x).length = 6 := by simp [headB12, be_length]
theorem bytesD_len (x : Dl) : 6 ≤ (bytesD x).length ∧ (bytesD x).length ≤ 28 := by
  unfold bytesD
  rw [List.length_append, headB_len]
  split
  · rw [bytesP_len]; omega
  · split
    · rw [List.length_append, bytesP_len, bytesP_len]; omega
    · simp
theorem putP_is {x : Pt} (h : FitP x) {s : List Int} (hl : s.length + 11 ≤ 65536) : putP x (s, 0) = (s ++ bytesP x, 0) ∧ rputP x (s, 0) = (s ++ bytesP x, 0) := by
  have e1 := penNum_fit (n := 1) 1 rfl h.c (s := s) (by omega)
  have e2 := penNum_fit (n := 3) 3 rfl h.l (s := s ++ be x.c 1) (by simp [be_length]; omega)
  have e3 := penNum_fit (n := 4) 4 rfl h.n (s := s ++ be x.c 1 ++ be x.l 3) (by simp [be_length]; omega)
  have e4 := penNum_fit (n := 2) 2 rfl h.a (s := s ++ be x.c 1 ++ be x.l 3 ++ be x.n 4) (by simp [be_length]; omega)
  have e5 := penNum_fit (n := 1) 1 rfl h.k (s := s ++ be x.c 1 ++ be x.l 3 ++ be x.n 4 ++ be x.a 2) (by simp [be_length]; omega)
  constructor
  · unfold putP bytesP
    rw [e1.1, e2.1, e3.1, e4.1, e5.1]
    simp only [List.append_assoc]
  · unfold rputP bytesP
    rw [e1.2, e2.2, e3.2, e4.2, e5.2]
    simp only [List.append_assoc]
structure FitD (x : Dl) : Prop where
  d : FitN x.d 1
  i : FitN x.i 2
  b : FitN x.b 1
  s : FitN x.s 2
  t : FitP x.t
  o : FitP x.o
theorem mayL_kind {x : Dl} (h : mayL x = true) : x.d = 1 ∧ x.o = pZ ∨ x.d = 2 ∧ x.t = pZ ∧ x.o = pZ ∧ x.b = 0 ∨ x.d = 3 ∧ x.s = 0 := by
  unfold mayL at h
  simp only [Bool.and_eq_true] at h
  have h := h.2
  unfold kindD at h
  by_cases h1 : x.d = 1
  · rw [if_pos h1] at h; exact Or.inl ⟨h1, zB_is.1 h⟩
  · rw [if_neg h1] at h
    by_cases h2 : x.d = 2
    · rw [if_pos h2] at h
      simp only [Bool.and_eq_true, zB_is, beq_iff_eq] at h
      exact Or.inr (Or.inl ⟨h2, h.1.1, h.1.2, h.2⟩)
    · rw [if_neg h2] at h
      by_cases h3 : x.d = 3
      · rw [if_pos h3] at h
        exact Or.inr (Or.inr ⟨h3, by simpa using h⟩)
      · rw [if_neg h3] at h; cases h
theorem fitD_of {x : Dl} (h : mayL x = true) : FitD x := by
  have hk := mayL_kind h
  unfold mayL at h
  simp only [Bool.and_eq_true, btw_is] at h
  obtain ⟨⟨⟨⟨⟨⟨i1, i2⟩, b1, b2⟩, s1, s2⟩, ht⟩, ho⟩, _⟩ := h
  exact ⟨⟨by decide, by decide, by omega, by show x.d < 256; omega⟩, ⟨by decide, by decide, by omega, by show x.i < 65536; omega⟩, ⟨by decide, by decide, b1, by show x.b < 256; omega⟩, ⟨by decide, by decide, s1, by show x.s < 65536; omega⟩, fitP_of ht, fitP_of ho⟩
theorem headN_is {x : Dl} (h : FitD x) {s : List Int} (hl : s.length + 28 ≤ 65536) : headN x (s, 0) = (s ++ headB12 x, 0) ∧ rheadN x (s, 0) = (s ++ headB12 x, 0) := by
  have e1 := penNum_fit (n := 1) 1 rfl h.d (s := s) (by omega)
  have e2 := penNum_fit (n := 2) 2 rfl h.i (s := s ++ be x.d 1) (by simp [be_length]; omega)
  have e3 := penNum_fit (n := 1) 1 rfl h.b (s := s ++ be x.d 1 ++ be x.i 2) (by simp [be_length]; omega)
  have e4 := penNum_fit (n := 2) 2 rfl h.s (s := s ++ be x.d 1 ++ be x.i 2 ++ be x.b 1) (by simp [be_length]; omega)
  constructor
  · unfold headN headB12
    rw [e1.1, e2.1, e3.1, e4.1]
    simp only [List.append_assoc]
  · unfold rheadN headB12
    rw [e1.2, e2.2, e3.2, e4.2]
    simp only [List.append_assoc]
theorem putD_is {x : Dl} (h : FitD x) {s : List Int} (hl : s.length + 28 ≤ 65536) : putD x (s, 0) = (s ++ bytesD x, 0) ∧ rputD x (s, 0) = (s ++ bytesD x, 0) := by
  obtain ⟨e1, e2⟩ := headN_is h hl
  have t1 := putP_is h.t (s := s ++ headB12 x) (by simp [headB_len]; omega)
  have o1 := putP_is h.o (s := s ++ headB12 x) (by simp [headB_len]; omega)
  have t2 := putP_is h.t (s := s ++ headB12 x ++ bytesP x.o) (by simp [headB_len, bytesP_len]; omega)
  unfold putD rputD bytesD
  rw [e1, e2]
  by_cases h1 : x.d = 1
  · simp only [if_pos h1]
    rw [t1.1, t1.2, List.append_assoc]
    exact ⟨rfl, rfl⟩
  · by_cases h3 : x.d = 3
    · simp only [if_neg h1, if_pos h3]
      rw [o1.1, o1.2, t2.1, t2.2, List.append_assoc, List.append_assoc]
      exact ⟨rfl, rfl⟩
    · simp only [if_neg h1, if_neg h3, List.append_nil]
      exact ⟨trivial, trivial⟩
theorem getP_be {x : Pt} (h : FitP x) (r : List Int) : getP (bytesP x ++ r, 0) = (x, (r, 0)) := by
  have e1 := numE_be (n := 1) 1 rfl h.c (be x.l 3 ++ (be x.n 4 ++ (be x.a 2 ++ (be x.k 1 ++ r))))
  have e2 := numE_be (n := 3) 3 rfl h.l (be x.n 4 ++ (be x.a 2 ++ (be x.k 1 ++ r)))
  have e3 := numE_be (n := 4) 4 rfl h.n (be x.a 2 ++ (be x.k 1 ++ r))
  have e4 := numE_be (n := 2) 2 rfl h.a (be x.k 1 ++ r)
  have e5 := numE_be (n := 1) 1 rfl h.k r
  unfold getP bytesP
  simp only [List.append_assoc]
  rw [e1]; simp only
  rw [e2]; simp only
  rw [e3]; simp only
  rw [e4]; simp only
  rw [e5]
theorem headE_be {x : Dl} (h : FitD x) (r : List Int) : headE (headB12 x ++ r, 0) = (⟨x.d, x.i, x.b, x.s, pZ, pZ⟩, (r, 0)) := by
  have e1 := numE_be (n := 1) 1 rfl h.d (be x.i 2 ++ (be x.b 1 ++ (be x.s 2 ++ r)))
  have e2 := numE_be (n := 2) 2 rfl h.i (be x.b 1 ++ (be x.s 2 ++ r))
  have e3 := numE_be (n := 1) 1 rfl h.b (be x.s 2 ++ r)
  have e4 := numE_be (n := 2) 2 rfl h.s r
  unfold headE headB12
  simp only [List.append_assoc]
  rw [e1]; simp only
  rw [e2]; simp only
  rw [e3]; simp only
  rw [e4]
/-- What a delta that may be has in bytes is read as that delta. -/
theorem getD_be {x : Dl} (h : mayL x = true) (r : List Int) : getD (bytesD x ++ r, 0) = (x, (r, 0)) := by
  have hf := fitD_of h
  obtain ⟨d, i, b, s, t, o⟩ := x
  have hk := mayL_kind h
  unfold getD bytesD
  rw [List.append_assoc, headE_be hf]
  simp only at hk ⊢
  rcases hk with ⟨rfl, rfl⟩ | ⟨rfl, rfl, rfl, rfl⟩ | ⟨rfl, rfl⟩
  · simp only [if_true]
    rw [getP_be hf.t]
  · simp
  · rw [if_neg (by decide), if_pos rfl, if_neg (by decide), if_pos rfl, List.append_assoc, getP_be hf.o]
    simp only
    rw [getP_be hf.t]
theorem getP_was {st : PSt} (h : (getP st).2.2 = 0) : st.2 = 0 := numE_was (numE_was (numE_was (numE_was (numE_was h))))
/-- Both read the same where the eye lives. -/
theorem getC_is {st : PSt} : (getC st).2 = (getD st).2 ∧ ((getD st).2.2 = 0 → getC st = getD st) := by
  unfold getC getD
  by_cases h1 : (headE st).1.d = 1
  · simp only [if_pos h1]
    refine ⟨trivial, fun h => ?_⟩
    unfold getA
    rw [if_pos h]
  · simp only [if_neg h1]
    by_cases h3 : (headE st).1.d = 3
    · simp only [if_pos h3]
      refine ⟨trivial, fun h => ?_⟩
      have h2 := getP_was h
      unfold getA
      rw [if_pos h, if_pos h2]
    · simp only [if_neg h3]
      exact ⟨trivial, fun _ => trivial⟩
theorem getP_ok {zs : List Int} (hb : ∀ z ∈ zs, 0 ≤ z ∧ z ≤ 255) (hz : (getP (zs, 0)).2.2 = 0) : zs = bytesP (getP (zs, 0)).1 ++ (getP (zs, 0)).2.1 := by
  unfold getP at hz ⊢
  simp only at hz ⊢
  obtain ⟨x1, ⟨r1, b1⟩, e1⟩ : ∃ x s, numE 1 (zs, 0) = (x, s) := ⟨_, _, rfl⟩
  rw [e1] at hz ⊢; simp only at hz ⊢
  obtain ⟨x2, ⟨r2, b2⟩, e2⟩ : ∃ x s, numE 3 (r1, b1) = (x, s) := ⟨_, _, rfl⟩
  rw [e2] at hz ⊢; simp only at hz ⊢
  obtain ⟨x3, ⟨r3, b3⟩, e3⟩ : ∃ x s, numE 4 (r2, b2) = (x, s) := ⟨_, _, rfl⟩
  rw [e3] at hz ⊢; simp only at hz ⊢
  obtain ⟨x4, ⟨r4, b4⟩, e4⟩ : ∃ x s, numE 2 (r3, b3) = (x, s) := ⟨_, _, rfl⟩
  rw [e4] at hz ⊢; simp only at hz ⊢
  obtain ⟨x5, ⟨r5, b5⟩, e5⟩ : ∃ x s, numE 1 (r4, b4) = (x, s) := ⟨_, _, rfl⟩
  rw [e5] at hz ⊢; simp only at hz ⊢
  subst hz
  have z4 : b4 = 0 := numE_was (n := 1) (st := (r4, b4)) (by rw [e5])
  subst z4
  have z3 : b3 = 0 := numE_was (n := 2) (st := (r3, b3)) (by rw [e4])
  subst z3
  have z2 : b2 = 0 := numE_was (n := 4) (st := (r2, b2)) (by rw [e3])
  subst z2
  have z1 : b1 = 0 := numE_was (n := 3) (st := (r1, b1)) (by rw [e2])
  subst z1
  have q1 := numE_ok 1 rfl (by decide) (by decide) hb (by rw [e1])
  have y1 := numE_bytes 1 (st := (zs, 0)) hb
  rw [e1] at q1; rw [e1] at y1
  have q2 := numE_ok 3 rfl (by decide) (by decide) y1 (by rw [e2])
  have y2 := numE_bytes 3 (st := (r1, 0)) y1
  rw [e2] at q2; rw [e2] at y2
  have q3 := numE_ok 4 rfl (by decide) (by decide) y2 (by rw [e3])
  have y3 := numE_bytes 4 (st := (r2, 0)) y2
  rw [e3] at q3; rw [e3] at y3
  have q4 := numE_ok 2 rfl (by decide) (by decide) y3 (by rw [e4])
  have y4 := numE_bytes 2 (st := (r3, 0)) y3
  rw [e4] at q4; rw [e4] at y4
  have q5 := numE_ok 1 rfl (by decide) (by decide) y4 (by rw [e5])
  rw [e5] at q5
  unfold bytesP
  simp only [List.append_assoc] at *
  rw [← q5.1, ← q4.1, ← q3.1, ← q2.1, ← q1.1]
end Go.Proofs.Ytoglcohdanpciaa
