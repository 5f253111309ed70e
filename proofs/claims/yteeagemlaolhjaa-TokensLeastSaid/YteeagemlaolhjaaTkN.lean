/- tokens: the plain mathematics of TokensLeast. -/
import Derived.Test.YteeagemlaolhjaaTkM
namespace Go.Proofs.Yteeagemlaolhjaa
open Go.RowKit Go.Shelf
set_option maxRecDepth 100000
set_option linter.unusedSimpArgs false
set_option linter.unusedVariables false

def cnt4 (f : Int → Bool) : Nat := (if f 0 then 1 else 0) + (if f 1 then 1 else 0) + (if f 2 then 1 else 0) + (if f 3 then 1 else 0)
theorem nodup_cnt : ∀ (l : List Int), l.Nodup → (∀ x ∈ l, 0 ≤ x ∧ x ≤ 3) → l.length = cnt4 (fun j => decide (j ∈ l))
  | [], _, _ => rfl
  | x :: r, hn, hb => by
    rw [List.nodup_cons] at hn
    have ih := nodup_cnt r hn.2 (fun y hy => hb y (by simp [hy]))
    have hx := hb x (by simp)
    have hx4 : x = 0 ∨ x = 1 ∨ x = 2 ∨ x = 3 := by omega
    have hnx := hn.1
    rw [List.length_cons, ih]
    unfold cnt4
    rcases hx4 with rfl | rfl | rfl | rfl <;> simp [hnx] <;> omega
theorem GoodK.cnt {rs : List Rk} (h : GoodK rs) (c : Int) : (rs.filter (sameCl c)).length = cnt4 (fun j => rs.any (atK c j)) := by
  have h2 := h.filter (sameCl c)
  have hs : ∀ x ∈ rs.filter (sameCl c), x.c = c := fun x hx => by
    have := (List.mem_filter.1 hx).2
    simpa [sameCl] using this
  have e := nodup_cnt ((rs.filter (sameCl c)).map (·.h)) (by
    unfold List.Nodup
    rw [List.pairwise_map]
    refine h2.pw.imp_of_mem fun {x y} hx hy hxy => ?_
    have h1 := aheadK_is.1 hxy.1
    have := hs x hx
    have := hs y hy
    omega) (fun z hz => by
    obtain ⟨x, hx, rfl⟩ := List.mem_map.1 hz
    have := h2.may x hx
    unfold mayK at this
    simp only [Bool.and_eq_true, btwK_is] at this
    omega)
  rw [List.length_map] at e
  rw [e]
  congr 1
  funext j
  rw [Bool.eq_iff_iff]
  simp only [decide_eq_true_eq, List.mem_map, List.mem_filter, List.any_eq_true, atK_is, sameCl]
  constructor
  · rintro ⟨x, ⟨hx, hc⟩, rfl⟩
    exact ⟨x, hx, hc.symm, rfl⟩
  · rintro ⟨x, hx, hc, hj⟩
    exact ⟨x, ⟨hx, hc.symm⟩, hj.symm⟩
/-- The state of TokensLeast: c has the handles that bs tells, o has one. -/
structure LsK (c o : Int) (rs : List Rk) (bs : List Bool) : Prop where
  good : GoodK rs
  oth : rs.filter (keepK (sameCl c)) = [⟨o, 0, 9, false⟩]
  has : ∀ j : Nat, j < 4 → rs.any (atK c (j : Int)) = bs.getD j false
  five : ∀ x ∈ rs, x.b = false ∧ (x.n = 5 → x.c = c)
  len : bs.length = 4
theorem any_ins (p : Rk → Bool) (r : Rk) (rs : List Rk) : (insK r rs).any p = (p r || rs.any p) := by
  unfold insK
  simp only [List.any_append, List.any_cons, List.any_nil, Bool.or_false]
  have : rs.any p = ((rs.take (posK r rs)).any p || (rs.drop (posK r rs)).any p) := by rw [← List.any_append, List.take_append_drop]
  rw [this]
  cases (rs.take (posK r rs)).any p <;> cases p r <;> simp
theorem filter_ins {p : Rk → Bool} {r : Rk} (h : p r = false) (rs : List Rk) : (insK r rs).filter p = rs.filter p := by
  unfold insK
  rw [List.filter_append, List.filter_append, List.filter_cons, if_neg (by simp [h]), List.filter_nil, List.append_nil, ← List.filter_append, List.take_append_drop]
theorem mem_ins {r x : Rk} {rs : List Rk} (h : x ∈ insK r rs) : x = r ∨ x ∈ rs := by
  unfold insK at h
  rcases List.mem_append.1 h with h | h
  · rcases List.mem_append.1 h with h | h
    · exact Or.inr (List.mem_of_mem_take h)
    · exact Or.inl (List.mem_singleton.1 h)
  · exact Or.inr (List.mem_of_mem_drop h)
theorem LsK.noclash {c o : Int} {rs : List Rk} {bs : List Bool} (h : LsK c o rs bs) (k n : Int) : rs.any (clashK ⟨c, k, n, false⟩) = false := by
  rw [List.any_eq_false]
  intro x hx
  unfold clashK
  simp [(h.five x hx).1]
/-- Which handle is wanted: the least from m on that is free. -/
def wantK (bs : List Bool) (m : Nat) : Int := match (List.range' m (4 - m)).find? (fun j => !bs.getD j false) with | some j => (j : Int) | none => -1
theorem wantK_end (bs : List Bool) : wantK bs 4 = -1 := rfl
theorem wantK_step (bs : List Bool) (m : Nat) (hm : m < 4) : wantK bs m = if bs.getD m false then wantK bs (m + 1) else (m : Int) := by
  unfold wantK
  rw [show 4 - m = (4 - (m + 1)) + 1 by omega, List.range'_succ, List.find?_cons]
  cases bs.getD m false <;> rfl
theorem LsK.want {c o : Int} {rs : List Rk} {bs : List Bool} (h : LsK c o rs bs) : (∃ k : Nat, k < 4 ∧ leastK rs c = some k ∧ wantK bs 0 = (k : Int) ∧ bs.getD k false = false) ∨ (leastK rs c = none ∧ wantK bs 0 = -1) := by
  have e : leastK rs c = (List.range' 0 4).find? (fun j => !bs.getD j false) := by
    unfold leastK
    rw [show List.range 4 = [0, 1, 2, 3] from rfl, show List.range' 0 4 = [0, 1, 2, 3] from rfl]
    simp only [List.find?_cons, h.has 0 (by omega), h.has 1 (by omega), h.has 2 (by omega), h.has 3 (by omega), List.find?_nil]
  unfold wantK
  rw [show 4 - 0 = 4 from rfl, ← e]
  cases hl : leastK rs c with
  | none => exact Or.inr ⟨rfl, rfl⟩
  | some k =>
    obtain ⟨h4, hk⟩ := leastK_is hl
    exact Or.inl ⟨k, h4, rfl, rfl, by rw [← h.has k h4]; exact hk⟩
theorem LsK.open {c o : Int} {rs : List Rk} {bs : List Bool} (h : LsK c o rs bs) (hc : 0 ≤ c ∧ c ≤ 3) {k : Nat} (hl : leastK rs c = some k) (hk : k < 4) :
    openK rs c 5 false = (((k : Int), 0), insK ⟨c, (k : Int), 5, false⟩ rs) ∧ LsK c o (insK ⟨c, (k : Int), 5, false⟩ rs) (bs.set k true) := by
  have hm : mayK ⟨c, 0, 5, false⟩ = true := by unfold mayK; simp [btwK]; omega
  have e : openK rs c 5 false = (((k : Int), 0), insK ⟨c, (k : Int), 5, false⟩ rs) := by
    unfold openK
    rw [if_pos hm, hl]
    simp only [h.noclash]
    rfl
  have g := h.good.open c 5 false
  rw [e] at g
  refine ⟨e, g, ?_, ?_, ?_, by rw [List.length_set]; exact h.len⟩
  · rw [filter_ins (by simp [keepK, sameCl])]
    exact h.oth
  · intro j hj
    rw [any_ins, h.has j hj]
    have hlen := h.len
    by_cases hjk : j = k
    · subst hjk
      simp [atK, List.getD_eq_getElem?_getD, List.getElem?_set, hlen, hk]
    · have : atK c (j : Int) ⟨c, (k : Int), 5, false⟩ = false := by simp [atK]; omega
      rw [this, Bool.false_or, List.getD_eq_getElem?_getD, List.getD_eq_getElem?_getD, List.getElem?_set_ne (fun e => hjk e.symm)]
  · intro x hx
    rcases mem_ins hx with rfl | hx
    · exact ⟨rfl, fun _ => rfl⟩
    · exact h.five x hx
theorem LsK.full {c o : Int} {rs : List Rk} {bs : List Bool} (h : LsK c o rs bs) (hc : 0 ≤ c ∧ c ≤ 3) (hl : leastK rs c = none) : openK rs c 5 false = ((0, 5), rs) := by
  have hm : mayK ⟨c, 0, 5, false⟩ = true := by unfold mayK; simp [btwK]; omega
  unfold openK
  rw [if_pos hm, hl]
theorem LsK.close {c o : Int} {rs : List Rk} {bs : List Bool} (h : LsK c o rs bs) (hco : c ≠ o) {k : Nat} (hk : k < 4) :
    closeE rs c (k : Int) = (if bs.getD k false then 0 else 13) ∧ LsK c o (rs.filter (keepK (atK c (k : Int)))) (bs.set k false) := by
  refine ⟨by unfold closeE; rw [h.has k hk], h.good.filter _, ?_, ?_, fun x hx => h.five x (List.mem_filter.1 hx).1, by rw [List.length_set]; exact h.len⟩
  · rw [List.filter_filter, ← h.oth]
    apply List.filter_congr
    intro x hx
    unfold keepK sameCl atK
    by_cases e : x.c = c
    · simp [e]
    · simp [e]; exact Or.inl (fun e2 => e e2.symm)
  · intro j hj
    have hlen := h.len
    by_cases hjk : j = k
    · subst hjk
      have : (rs.filter (keepK (atK c (j : Int)))).any (atK c (j : Int)) = false := by
        rw [List.any_eq_false]
        intro x hx
        have := (List.mem_filter.1 hx).2
        unfold keepK at this
        simpa using this
      rw [this]
      simp [List.getD_eq_getElem?_getD, List.getElem?_set, hlen, hk]
    · have e1 : (rs.filter (keepK (atK c (k : Int)))).any (atK c (j : Int)) = rs.any (atK c (j : Int)) := by
        rw [List.any_filter]
        congr 1
        funext x
        unfold keepK
        cases hq : atK c (j : Int) x with
        | false => simp
        | true =>
          have h1 := atK_is.1 hq
          have : atK c (k : Int) x = false := by
            cases hz : atK c (k : Int) x with
            | false => rfl
            | true => have h2 := atK_is.1 hz; omega
          rw [this]; rfl
      rw [e1, h.has j hj, List.getD_eq_getElem?_getD, List.getD_eq_getElem?_getD, List.getElem?_set_ne (fun e => hjk e.symm)]
theorem LsK.other {c o : Int} {rs : List Rk} {bs : List Bool} (h : LsK c o rs bs) (hco : c ≠ o) : ofR rs o 0 = ⟨o, 0, 9, false⟩ ∧ rs.any (atK o 0) = true := by
  have hm : (⟨o, 0, 9, false⟩ : Rk) ∈ rs := by
    have : (⟨o, 0, 9, false⟩ : Rk) ∈ rs.filter (keepK (sameCl c)) := by rw [h.oth]; simp
    exact (List.mem_filter.1 this).1
  have ha : rs.any (atK o 0) = true := List.any_eq_true.2 ⟨_, hm, by simp [atK]⟩
  refine ⟨?_, ha⟩
  unfold ofR
  cases hf : rs.find? (atK o 0) with
  | none =>
    rw [List.find?_eq_none] at hf
    exact absurd (by simp [atK]) (hf _ hm)
  | some x =>
    have hx := List.mem_of_find?_eq_some hf
    have hp := atK_is.1 (List.find?_some hf)
    have : x ∈ rs.filter (keepK (sameCl c)) := List.mem_filter.2 ⟨hx, by unfold keepK sameCl; simp; omega⟩
    rw [h.oth] at this
    rw [List.mem_singleton.1 this]
    rfl
theorem LsK.busy {c o : Int} {rs : List Rk} {bs : List Bool} (h : LsK c o rs bs) (ho : (⟨o, 0, 9, false⟩ : Rk).n ≠ 5) : (rs.filter (keepK (sameCl c))).any (freeIno 5) = false := by
  rw [h.oth]; rfl
/-- How many handles there are. -/
def cntB (bs : List Bool) (k : Nat) : Nat := ((bs.take k).filter id).length
theorem cntB_succ {bs : List Bool} {k : Nat} (hk : k < bs.length) : cntB bs (k + 1) = cntB bs k + if bs.getD k false then 1 else 0 := by
  unfold cntB
  rw [List.take_succ_eq_append_getElem hk, List.filter_append, List.length_append, List.getD_eq_getElem?_getD, List.getElem?_eq_getElem hk]
  congr 1
  cases h : bs[k] <;> simp [h]
theorem split_len (p : Rk → Bool) : ∀ rs : List Rk, rs.length = (rs.filter p).length + (rs.filter (keepK p)).length
  | [] => rfl
  | x :: r => by
    have ih := split_len p r
    cases h : p x
    · have hk : keepK p x = true := by unfold keepK; rw [h]; rfl
      rw [List.filter_cons, if_neg (by simp [h]), List.filter_cons, if_pos hk, List.length_cons, List.length_cons]; omega
    · have hk : keepK p x = false := by unfold keepK; rw [h]; rfl
      rw [List.filter_cons, if_pos h, List.filter_cons, if_neg (by simp [hk]), List.length_cons, List.length_cons]; omega
theorem LsK.cnt {c o : Int} {rs : List Rk} {bs : List Bool} (h : LsK c o rs bs) : (rs.length : Int) - ((rs.filter (keepK (sameCl c))).length : Int) = (cntB bs 4 : Nat) := by
  have e1 := h.good.cnt c
  have e2 : rs.length = (rs.filter (sameCl c)).length + (rs.filter (keepK (sameCl c))).length := by
    exact split_len (sameCl c) rs
  have e3 : cnt4 (fun j => rs.any (atK c j)) = cntB bs 4 := by
    have l := h.len
    have s0 := cntB_succ (bs := bs) (k := 0) (by omega)
    have s1 := cntB_succ (bs := bs) (k := 1) (by omega)
    have s2 := cntB_succ (bs := bs) (k := 2) (by omega)
    have s3 := cntB_succ (bs := bs) (k := 3) (by omega)
    simp only [Nat.zero_add, Nat.reduceAdd] at s0 s1 s2 s3
    rw [s3, s2, s1, s0]
    unfold cnt4
    simp only []
    have h0 := h.has 0 (by omega)
    have h1 := h.has 1 (by omega)
    have h2 := h.has 2 (by omega)
    have h3 := h.has 3 (by omega)
    simp only [Int.natCast_zero] at h0
    have q0 : rs.any (atK c 0) = bs.getD 0 false := h0
    have q1 : rs.any (atK c 1) = bs.getD 1 false := h1
    have q2 : rs.any (atK c 2) = bs.getD 2 false := h2
    have q3 : rs.any (atK c 3) = bs.getD 3 false := h3
    have z : cntB bs 0 = 0 := by simp [cntB]
    rw [z, Nat.zero_add]
    congr 1
    · congr 1
      · congr 1
        · cases hb : bs.getD 0 false <;> rw [hb] at q0 <;> simp [q0]
        · cases hb : bs.getD 1 false <;> rw [hb] at q1 <;> simp [q1]
      · cases hb : bs.getD 2 false <;> rw [hb] at q2 <;> simp [q2]
    · cases hb : bs.getD 3 false <;> rw [hb] at q3 <;> simp [q3]
  omega
end Go.Proofs.Yteeagemlaolhjaa
