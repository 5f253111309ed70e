/- pack, plainly: what is packed twice, under other numbers. -/
import Derived.Test.YtcfmonlgpccndaaDoorPkMp
import Derived.Test.YtcfmonlgpccndaaDoorPkG19
namespace Go.Proofs.YtcfmonlgpccndaaDoor
open Go.RowKit
set_option linter.unusedSimpArgs false
set_option linter.unusedVariables false

def shS (s : Spe) : Spe := ⟨s.c, s.l, s.n + 100⟩
def shF (x : Fl) : Fl := ⟨shS x.s, x.d⟩
theorem lastF_sh (fs : List Fl) (h : 0 < fs.length) : lastF (fs.map shF) = shF (lastF fs) := by
  rw [lastF_is (by simpa using h), lastF_is h]
  simp
theorem newF_sh (m : Int) (fs : List Fl) (b : List Int) : newF m (fs.map shF) b = newF m fs b := by
  unfold newF
  rw [List.length_map]
  rcases Nat.eq_zero_or_pos fs.length with h | h
  · rw [h]; rfl
  · rw [lastF_sh fs h]
    rfl
theorem nextS_sh (f : Spe) (k : Nat) : nextS (shS f) k = shS (nextS f k) := by
  simp only [nextS, shS, Spe.mk.injEq, true_and]
  omega
theorem openF_sh (f : Spe) (m : Int) (fs : List Fl) (b : List Int) : openF (shS f) m (fs.map shF) b = (openF f m fs b).map shF := by
  unfold openF
  rw [newF_sh]
  by_cases h : newF m fs b = true
  · rw [if_pos h, if_pos h, List.map_append, List.length_map, nextS_sh]
    rfl
  · rw [if_neg h, if_neg h]
theorem putF_sh (f : Spe) (m : Int) (fs : List Fl) (b : List Int) : putF (shS f) m (fs.map shF) b = (putF f m fs b).map shF := by
  have hp := open_pos f m fs b
  unfold putF addF
  rw [openF_sh, lastF_sh _ hp, List.length_map, List.map_set]
  rfl
theorem layF_sh (f : Spe) (m : Int) (bs : List (List Int)) : ∀ k, layF (shS f) m bs k = (layF f m bs k).map shF
  | 0 => rfl
  | k + 1 => by
    unfold layF
    rw [layF_sh f m bs k]
    split
    · rfl
    · rw [putF_sh]
/-- The same place under another number. -/
def TwR (p q : Pt) : Prop := (p = pZ ∧ q = pZ) ∨ (q = ⟨p.c, p.l, p.n + 100, p.a, p.k⟩ ∧ 0 < p.k)
theorem ptrK_sh (f : Spe) (m : Int) (bs : List (List Int)) (k : Nat) : TwR (ptrK f m bs k) (ptrK (shS f) m bs k) := by
  unfold ptrK
  by_cases h : (trimL (bs.getD k [])).length = 0
  · rw [if_pos h, if_pos h]; exact .inl ⟨rfl, rfl⟩
  · rw [if_neg h, if_neg h]
    right
    have hp := open_pos f m (layF f m bs k) (trimL (bs.getD k []))
    unfold ptrF
    rw [layF_sh, openF_sh, lastF_sh _ hp]
    refine ⟨rfl, ?_⟩
    show 0 < ((trimL (bs.getD k [])).length : Int)
    omega
theorem pick_none {l : List Db} {ps : List Pt} {b : Int} {d : Pt} : ∀ k, (∀ j, j < k → b ≠ (l.getD j default).b) → pickP l ps b d k = d
  | 0, _ => rfl
  | k + 1, h => by
    unfold pickP
    rw [if_neg (h k (Nat.lt_succ_self k))]
    exact pick_none k (fun j hj => h j (by omega))
theorem pick_some {l : List Db} {ps qs : List Pt} {b : Int} {d e : Pt} (hR : ∀ k, TwR (ps.getD k pZ) (qs.getD k pZ)) : ∀ k, (∃ j, j < k ∧ b = (l.getD j default).b) → TwR (pickP l ps b d k) (pickP l qs b e k)
  | 0, h => by obtain ⟨j, hj, _⟩ := h; omega
  | k + 1, h => by
    unfold pickP
    by_cases e : b = (l.getD k default).b
    · rw [if_pos e, if_pos e]; exact hR k
    · rw [if_neg e, if_neg e]
      obtain ⟨j, hj, hb⟩ := h
      refine pick_some hR k ⟨j, ?_, hb⟩
      by_cases e2 : j = k
      · subst e2; exact absurd hb e
      · omega
theorem pick_two {l : List Db} {ps qs : List Pt} {b : Int} (hR : ∀ k, TwR (ps.getD k pZ) (qs.getD k pZ)) (k : Nat) : TwR (pickP l ps b pZ k) (pickP l qs b (pickP l ps b pZ k) k) := by
  by_cases h : ∃ j, j < k ∧ b = (l.getD j default).b
  · exact pick_some hR k h
  · have h' : ∀ j, j < k → b ≠ (l.getD j default).b := fun j hj e => h ⟨j, hj, e⟩
    rw [pick_none k h', pick_none k h']
    exact .inl ⟨rfl, rfl⟩
end Go.Proofs.YtcfmonlgpccndaaDoor
