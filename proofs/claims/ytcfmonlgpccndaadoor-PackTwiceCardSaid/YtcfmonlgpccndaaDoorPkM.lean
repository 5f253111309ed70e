/- pack, plainly: Trim, stripes that are filled one behind the other, pointers, deltas. -/
import Derived.Test.YtcfmonlgpccndaaDoorPkG02
import Derived.Test.YtcfmonlgpccndaaDoorPkG20
import Derived.Test.YtcfmonlgpccndaaDoorPkG26
namespace Go.Proofs.YtcfmonlgpccndaaDoor
open Go.RowKit
set_option linter.unusedSimpArgs false
set_option linter.unusedVariables false

/-- How many bytes of the first k there are without the noughts at their end. -/
def tN (b : List Int) : Nat → Nat
  | 0 => 0
  | k + 1 => if b.getD k 0 = 0 then tN b k else k + 1
theorem tN_le (b : List Int) : ∀ k, tN b k ≤ k
  | 0 => Nat.le_refl _
  | k + 1 => by
    unfold tN
    split
    · exact Nat.le_succ_of_le (tN_le b k)
    · exact Nat.le_refl _
theorem tN_zero (b : List Int) : tN b 0 = 0 := rfl
theorem tN_yes {b : List Int} {k : Nat} (h : b.getD k 0 = 0) : tN b (k + 1) = tN b k := by rw [tN, if_pos h]
theorem tN_no {b : List Int} {k : Nat} (h : b.getD k 0 ≠ 0) : tN b (k + 1) = k + 1 := by rw [tN, if_neg h]
def trimL (b : List Int) : List Int := b.take (tN b b.length)
theorem trim_len (b : List Int) : (trimL b).length = tN b b.length := by
  unfold trimL
  rw [List.length_take, Nat.min_eq_left (tN_le b _)]
theorem trim_le (b : List Int) : (trimL b).length ≤ b.length := by rw [trim_len]; exact tN_le b _
theorem trim_mem {b : List Int} {z : Int} (h : z ∈ trimL b) : z ∈ b := List.mem_of_mem_take h
theorem tN_last {b : List Int} : ∀ {k : Nat}, 0 < tN b k → b.getD (tN b k - 1) 0 ≠ 0
  | 0, h => absurd h (by simp [tN])
  | k + 1, h => by
    by_cases e : b.getD k 0 = 0
    · rw [tN_yes e] at h ⊢
      exact tN_last h
    · rw [tN_no e]
      simpa using e
theorem tN_all {b : List Int} : ∀ {k : Nat}, (∀ j, j < k → b.getD j 0 = 0) → tN b k = 0
  | 0, _ => rfl
  | k + 1, h => by rw [tN_yes (h k (Nat.lt_succ_self k))]; exact tN_all (fun j hj => h j (Nat.lt_succ_of_lt hj))

/-- A stripe that is filled. -/
structure Fl where
  s : Spe
  d : List Int
deriving Inhabited, DecidableEq
def ptrS (s : Spe) (a k : Int) : Pt := ⟨s.c, s.l, s.n, a, k⟩
def nextS (f : Spe) (k : Nat) : Spe := ⟨f.c, f.l, f.n + k⟩
def lastF (fs : List Fl) : Fl := fs.getD (fs.length - 1) ⟨⟨0, 0, 0⟩, []⟩
/-- Is a new stripe wanted? -/
def newF (m : Int) (fs : List Fl) (b : List Int) : Bool := fs.length == 0 || decide (m < ((lastF fs).d.length + b.length : Int))
def openF (f : Spe) (m : Int) (fs : List Fl) (b : List Int) : List Fl := if newF m fs b = true then fs ++ [⟨nextS f fs.length, []⟩] else fs
def addF (fs : List Fl) (b : List Int) : List Fl := fs.set (fs.length - 1) ⟨(lastF fs).s, (lastF fs).d ++ b⟩
def putF (f : Spe) (m : Int) (fs : List Fl) (b : List Int) : List Fl := addF (openF f m fs b) b
def ptrF (f : Spe) (m : Int) (fs : List Fl) (b : List Int) : Pt := ptrS (lastF (openF f m fs b)).s (lastF (openF f m fs b)).d.length b.length
/-- Behind the first k blocks. -/
def layF (f : Spe) (m : Int) (bs : List (List Int)) : Nat → List Fl
  | 0 => []
  | k + 1 => if (trimL (bs.getD k [])).length = 0 then layF f m bs k else putF f m (layF f m bs k) (trimL (bs.getD k []))
def ptrK (f : Spe) (m : Int) (bs : List (List Int)) (k : Nat) : Pt := if (trimL (bs.getD k [])).length = 0 then pZ else ptrF f m (layF f m bs k) (trimL (bs.getD k []))
def ptrsL (f : Spe) (m : Int) (bs : List (List Int)) (k : Nat) : List Pt := (List.range k).map (ptrK f m bs)
theorem ptrs_len (f : Spe) (m : Int) (bs : List (List Int)) (k : Nat) : (ptrsL f m bs k).length = k := by simp [ptrsL]
theorem ptrs_succ (f : Spe) (m : Int) (bs : List (List Int)) (k : Nat) : ptrsL f m bs (k + 1) = ptrsL f m bs k ++ [ptrK f m bs k] := by simp [ptrsL, List.range_succ]
theorem ptrs_get {f : Spe} {m : Int} {bs : List (List Int)} {k j : Nat} (h : j < (ptrsL f m bs k).length) : (ptrsL f m bs k)[j] = ptrK f m bs j := by simp [ptrsL]

/-- A block that was changed, plainly. -/
structure Db where
  b : Int
  d : List Int
deriving Inhabited
def leastK (l : List Db) (k : Nat) : Int := if k = 0 then 0 else (l.getD (k - 1) default).b + 1
def okK (l : List Db) (size : Int) (k : Nat) : Bool := btw (l.getD k default).b (leastK l k) ((size + 63) / 64 - 1) && decide ((l.getD k default).d.length ≤ 64)
def lieB (l : List Db) (size : Int) : Bool := (List.range l.length).all (okK l size)
theorem lieB_is {l : List Db} {size : Int} : lieB l size = true ↔ ∀ k, k < l.length → okK l size k = true := by
  unfold lieB
  simp
theorem lieB_no {l : List Db} {size : Int} {k : Nat} (hk : k < l.length) (h : okK l size k = false) : lieB l size = false := by
  cases hq : lieB l size with
  | false => rfl
  | true => rw [lieB_is.1 hq k hk] at h; cases h
def mostI (n : Int) : Int := 400 * (n - 1)
def delK (ino size : Int) (l : List Db) (ps : List Pt) (k : Nat) : Dl := ⟨1, ino, (l.getD k default).b, size, ps.getD k pZ, pZ⟩
def delsL (ino size : Int) (l : List Db) (ps : List Pt) (k : Nat) : List Dl := (List.range k).map (delK ino size l ps)
theorem dels_len (ino size : Int) (l : List Db) (ps : List Pt) (k : Nat) : (delsL ino size l ps k).length = k := by simp [delsL]
theorem dels_succ (ino size : Int) (l : List Db) (ps : List Pt) (k : Nat) : delsL ino size l ps (k + 1) = delsL ino size l ps k ++ [delK ino size l ps k] := by simp [delsL, List.range_succ]
def cutD (ino size : Int) : Dl := ⟨2, ino, 0, size, pZ, pZ⟩
def bsOf (l : List Db) : List (List Int) := l.map (·.d)
theorem bsOf_get {l : List Db} {k : Nat} : (bsOf l).getD k [] = (l.getD k default).d := by
  unfold bsOf
  rw [List.getD_eq_getElem?_getD, List.getD_eq_getElem?_getD, List.getElem?_map]
  cases l[k]? <;> rfl
/-- What Pack answers. -/
def packL (ino size : Int) (f : Spe) (n : Int) (l : List Db) : List Fl × List Dl × Int :=
  if maySv n = true ∧ mayE f = true ∧ btw ino 2 128 = true ∧ btw size 0 4096 = true ∧ lieB l size = true then
    (if 1073741824 < f.n + (layF f (mostI n) (bsOf l) l.length).length - 1 then ([], [], 5)
     else (layF f (mostI n) (bsOf l) l.length, delsL ino size l (ptrsL f (mostI n) (bsOf l) l.length) l.length ++ [cutD ino size], 0))
  else ([], [], 1)

theorem open_len (f : Spe) (m : Int) (fs : List Fl) (b : List Int) : (openF f m fs b).length = if newF m fs b = true then fs.length + 1 else fs.length := by
  unfold openF
  split <;> simp
theorem add_len (fs : List Fl) (b : List Int) : (addF fs b).length = fs.length := by simp [addF]
theorem put_len (f : Spe) (m : Int) (fs : List Fl) (b : List Int) : (putF f m fs b).length = if newF m fs b = true then fs.length + 1 else fs.length := by
  unfold putF
  rw [add_len, open_len]
theorem open_pos (f : Spe) (m : Int) (fs : List Fl) (b : List Int) : 0 < (openF f m fs b).length := by
  rw [open_len]
  split
  · omega
  · rename_i h
    unfold newF at h
    simp at h
    have := h.1
    cases fs with
    | nil => simp at this
    | cons _ _ => simp
theorem lay_le (f : Spe) (m : Int) (bs : List (List Int)) : ∀ k, (layF f m bs k).length ≤ k
  | 0 => by simp [layF]
  | k + 1 => by
    have := lay_le f m bs k
    unfold layF
    split
    · omega
    · rw [put_len]
      split <;> omega
theorem lay_mono (f : Spe) (m : Int) (bs : List (List Int)) (k : Nat) : (layF f m bs k).length ≤ (layF f m bs (k + 1)).length := by
  conv => rhs; unfold layF
  split
  · exact Nat.le_refl _
  · rw [put_len]
    split <;> omega
theorem lay_monos (f : Spe) (m : Int) (bs : List (List Int)) {j k : Nat} (h : j ≤ k) : (layF f m bs j).length ≤ (layF f m bs k).length := by
  induction k with
  | zero => obtain rfl : j = 0 := by omega
            exact Nat.le_refl _
  | succ k ih =>
    by_cases e : j = k + 1
    · subst e; exact Nat.le_refl _
    · exact Nat.le_trans (ih (by omega)) (lay_mono f m bs k)

/-- What holds of stripes that are filled by blocks of at most 64 bytes. -/
structure GoodF (f : Spe) (m : Int) (fs : List Fl) : Prop where
  st : ∀ i (h : i < fs.length), fs[i].s = nextS f i
  pos : ∀ i (h : i < fs.length), 0 < fs[i].d.length
  few : ∀ i (h : i < fs.length), (fs[i].d.length : Int) ≤ m
  full : ∀ i (h : i < fs.length), i + 1 < fs.length → m - 64 < (fs[i].d.length : Int)
theorem GoodF.nil (f : Spe) (m : Int) : GoodF f m [] := ⟨fun i h => by simp at h, fun i h => by simp at h, fun i h => by simp at h, fun i h => by simp at h⟩
theorem lastF_is {fs : List Fl} (h : 0 < fs.length) : lastF fs = fs[fs.length - 1] := by
  unfold lastF
  rw [List.getD_eq_getElem?_getD, List.getElem?_eq_getElem (by omega)]
  rfl
theorem put_new {f : Spe} {m : Int} {fs : List Fl} {b : List Int} (hn : newF m fs b = true) : putF f m fs b = fs ++ [⟨nextS f fs.length, b⟩] := by
  have e : openF f m fs b = fs ++ [⟨nextS f fs.length, []⟩] := by unfold openF; rw [if_pos hn]
  have el : lastF (fs ++ [⟨nextS f fs.length, []⟩]) = ⟨nextS f fs.length, []⟩ := by
    rw [lastF_is (by simp)]
    simp
  unfold putF addF
  rw [e, el]
  apply List.ext_getElem
  · simp
  · intro i h1 h2
    rw [List.getElem_set]
    by_cases h' : i < fs.length
    · rw [if_neg (by simp; omega), List.getElem_append_left h', List.getElem_append_left h']
    · have : i = fs.length := by simp at h2; omega
      subst this
      rw [if_pos (by simp)]
      simp
theorem put_old {f : Spe} {m : Int} {fs : List Fl} {b : List Int} (hn : ¬ newF m fs b = true) : putF f m fs b = fs.set (fs.length - 1) ⟨(lastF fs).s, (lastF fs).d ++ b⟩ := by
  have e : openF f m fs b = fs := by unfold openF; rw [if_neg hn]
  unfold putF addF
  rw [e]
theorem put_at {f : Spe} {m : Int} {fs : List Fl} {b : List Int} {i : Nat} (h : i < (putF f m fs b).length) :
    (putF f m fs b)[i] = if newF m fs b = true then (if h' : i < fs.length then fs[i] else ⟨nextS f fs.length, b⟩) else (if h' : i + 1 < fs.length then fs[i] else ⟨(lastF fs).s, (lastF fs).d ++ b⟩) := by
  have hl := put_len f m fs b
  by_cases hn : newF m fs b = true
  · rw [if_pos hn] at hl ⊢
    rw [List.getElem_of_eq (put_new hn)]
    by_cases h' : i < fs.length
    · rw [dif_pos h', List.getElem_append_left h']
    · have : i = fs.length := by omega
      subst this
      rw [dif_neg h']
      simp
  · rw [if_neg hn] at hl ⊢
    rw [List.getElem_of_eq (put_old hn), List.getElem_set]
    by_cases h' : i + 1 < fs.length
    · rw [if_neg (by omega), dif_pos h']
    · rw [if_pos (by omega), dif_neg h']
theorem GoodF.put {f : Spe} {m : Int} {fs : List Fl} (h : GoodF f m fs) {b : List Int} (h0 : 0 < b.length) (h1 : b.length ≤ 64) (hm : 64 ≤ m) : GoodF f m (putF f m fs b) := by
  have hl := put_len f m fs b
  by_cases hn : newF m fs b = true
  · rw [if_pos hn] at hl
    refine ⟨fun i hi => ?_, fun i hi => ?_, fun i hi => ?_, fun i hi h2 => ?_⟩ <;> rw [put_at, if_pos hn] <;> split
    · rename_i h'; exact h.st i h'
    · have : i = fs.length := by omega
      rw [this]
    · rename_i h'; exact h.pos i h'
    · exact h0
    · rename_i h'; exact h.few i h'
    · simp only; omega
    · rename_i h'
      by_cases e : i + 1 < fs.length
      · exact h.full i h' e
      · unfold newF at hn
        rw [Bool.or_eq_true] at hn
        rcases hn with hn | hn
        · simp at hn; simp [hn] at h'
        · have := of_decide_eq_true hn
          rw [lastF_is (by omega)] at this
          have e2 : fs.length - 1 = i := by omega
          simp only [e2] at this
          omega
    · omega
  · rw [if_neg hn] at hl
    have hp : 0 < fs.length := by
      have := open_pos f m fs b
      rw [open_len, if_neg hn] at this
      exact this
    have hle : ((lastF fs).d.length + b.length : Int) ≤ m := by
      unfold newF at hn
      simp at hn
      exact hn.2
    have el := lastF_is hp
    refine ⟨fun i hi => ?_, fun i hi => ?_, fun i hi => ?_, fun i hi h2 => ?_⟩ <;> rw [put_at, if_neg hn] <;> split
    · rename_i h'; exact h.st i (by omega)
    · have e2 : fs.length - 1 = i := by omega
      rw [el]
      simp only [e2]
      exact h.st i (by omega)
    · rename_i h'; exact h.pos i (by omega)
    · simp only [List.length_append]; omega
    · rename_i h'; exact h.few i (by omega)
    · simp only [List.length_append]; omega
    · rename_i h'; exact h.full i (by omega) (by omega)
    · omega
theorem good_lay {f : Spe} {m : Int} {bs : List (List Int)} (hb : ∀ k, (bs.getD k []).length ≤ 64) (hm : 64 ≤ m) : ∀ k, GoodF f m (layF f m bs k)
  | 0 => GoodF.nil f m
  | k + 1 => by
    unfold layF
    split
    · exact good_lay hb hm k
    · rename_i h
      exact (good_lay hb hm k).put (by omega) (Nat.le_trans (trim_le _) (hb k)) hm
end Go.Proofs.YtcfmonlgpccndaaDoor
