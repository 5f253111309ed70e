/- pack, plainly: blocks that are all alike: how many stripes, how many bytes. -/
import Derived.Test.YtcfmonlgpccndaaDoorPkF
import Derived.Test.YtcfmonlgpccndaaDoorPkI
import Derived.Test.YtcfmonlgpccndaaDoorPkG19
namespace Go.Proofs.YtcfmonlgpccndaaDoor
open Go.RowKit
set_option linter.unusedSimpArgs false
set_option linter.unusedVariables false

def tot (fs : List Fl) : Nat := (fs.map fun x => x.d.length).sum
theorem tot_nil : tot [] = 0 := rfl
theorem tot_append (a b : List Fl) : tot (a ++ b) = tot a + tot b := by simp [tot]
theorem tot_put {f : Spe} {m : Int} {fs : List Fl} {b : List Int} (h : 0 < fs.length ∨ newF m fs b = true) : tot (putF f m fs b) = tot fs + b.length := by
  by_cases hn : newF m fs b = true
  · rw [put_new hn, tot_append]
    simp [tot]
  · have hp : 0 < fs.length := by
      rcases h with h | h
      · exact h
      · exact absurd h hn
    rw [put_old hn]
    have e : fs = fs.take (fs.length - 1) ++ [fs[fs.length - 1]'(by omega)] := by
      conv => lhs; rw [← List.take_append_drop (fs.length - 1) fs]
      congr 1
      rw [List.drop_eq_getElem_cons (by omega)]
      congr 1
      rw [List.drop_eq_nil_of_le (by omega)]
    have e2 : fs.set (fs.length - 1) ⟨(lastF fs).s, (lastF fs).d ++ b⟩ = fs.take (fs.length - 1) ++ [⟨(lastF fs).s, (lastF fs).d ++ b⟩] := by
      rw [List.set_eq_take_append_cons_drop, if_pos (by omega), List.drop_eq_nil_of_le (by omega)]
    rw [e2, tot_append]
    conv => rhs; rw [e, tot_append]
    rw [lastF_is hp]
    simp [tot]
    omega
theorem tot_take {fs : List Fl} {k : Nat} (h : k < fs.length) : tot (fs.take (k + 1)) = tot (fs.take k) + fs[k].d.length := by
  rw [List.take_succ_eq_append_getElem h, tot_append]
  simp [tot]
def rowF (x : Int) : List Int := List.replicate 64 x
def dbF (x : Int) (k : Nat) : List Db := (List.range k).map fun (i : Nat) => (⟨(i : Int), rowF x⟩ : Db)
theorem dbF_len (x : Int) (k : Nat) : (dbF x k).length = k := by simp [dbF]
theorem dbF_get {x : Int} {n k : Nat} (h : k < n) : (dbF x n).getD k default = ⟨(k : Int), rowF x⟩ := by
  rw [List.getD_eq_getElem?_getD, List.getElem?_eq_getElem (by rw [dbF_len]; exact h)]
  simp [dbF]
theorem dbF_succ (x : Int) (k : Nat) : dbF x (k + 1) = dbF x k ++ [⟨(k : Int), rowF x⟩] := by simp [dbF, List.range_succ]
theorem bsF_get {x : Int} {n k : Nat} (h : k < n) : (bsOf (dbF x n)).getD k [] = rowF x := by rw [bsOf_get, dbF_get h]
theorem trim_row {x : Int} (h : x ≠ 0) : trimL (rowF x) = rowF x := by
  have e : tN (rowF x) 64 = 64 := tN_no (by simpa [rowF] using h)
  unfold trimL
  rw [show (rowF x).length = 64 by simp [rowF], e]
  exact List.take_of_length_le (by simp [rowF])
theorem trim_zero : trimL (rowF 0) = [] := by
  have e : tN (rowF 0) 64 = 0 := tN_all (fun j hj => by
    unfold rowF
    rw [List.getD_eq_getElem?_getD, List.getElem?_replicate, if_pos hj]
    rfl)
  unfold trimL
  rw [show (rowF 0).length = 64 by simp [rowF], e]
  rfl
theorem lay_zero (f : Spe) (m : Int) (n : Nat) : ∀ k, k ≤ n → layF f m (bsOf (dbF 0 n)) k = []
  | 0, _ => rfl
  | k + 1, h => by
    unfold layF
    rw [bsF_get (by omega), trim_zero]
    simp only [List.length_nil, if_true]
    exact lay_zero f m n k (by omega)
theorem lay_step (f : Spe) (m : Int) {x : Int} (hx : x ≠ 0) {n k : Nat} (h : k < n) : layF f m (bsOf (dbF x n)) (k + 1) = putF f m (layF f m (bsOf (dbF x n)) k) (rowF x) := by
  conv => lhs; unfold layF
  rw [bsF_get h, trim_row hx, if_neg (by simp [rowF])]
theorem last_put {f : Spe} {m : Int} {fs : List Fl} {b : List Int} : (lastF (putF f m fs b)).d.length = if newF m fs b = true then b.length else (lastF fs).d.length + b.length := by
  have hl := put_len f m fs b
  have hp : 0 < (putF f m fs b).length := by
    unfold putF
    rw [add_len]
    exact open_pos f m fs b
  rw [lastF_is hp, put_at]
  by_cases hn : newF m fs b = true
  · rw [if_pos hn] at hl ⊢
    rw [if_pos hn, dif_neg (by omega)]
  · rw [if_neg hn] at hl ⊢
    rw [if_neg hn, dif_neg (by omega)]
    simp
structure SzF (per : Nat) (fs : List Fl) (k : Nat) : Prop where
  all : tot fs = 64 * k
  some : (k = 0 ∧ fs.length = 0) ∨ ∃ L q, fs.length = L + 1 ∧ 1 ≤ q ∧ q ≤ per ∧ k = L * per + q ∧ (lastF fs).d.length = 64 * q
theorem sz_lay (f : Spe) (m : Int) (per : Nat) (hper : (per : Int) * 64 ≤ m ∧ m < (per : Int) * 64 + 64) (h1 : 1 ≤ per) {x : Int} (hx : x ≠ 0) (n : Nat) : ∀ k, k ≤ n → SzF per (layF f m (bsOf (dbF x n)) k) k
  | 0, _ => ⟨rfl, .inl ⟨rfl, rfl⟩⟩
  | k + 1, h => by
    have ih := sz_lay f m per hper h1 hx n k (by omega)
    rw [lay_step f m hx (by omega)]
    generalize layF f m (bsOf (dbF x n)) k = fs at ih
    have hb : (rowF x).length = 64 := by simp [rowF]
    have hlen := put_len f m fs (rowF x)
    have hlast := last_put (f := f) (m := m) (fs := fs) (b := rowF x)
    rcases ih.some with ⟨h0, hf⟩ | ⟨L, q, hf, q1, q2, hk, hl⟩
    · have hn := newF_zero (m := m) (b := rowF x) hf
      rw [if_pos hn] at hlen hlast
      refine ⟨by rw [tot_put (.inr hn), ih.all, hb]; omega, .inr ⟨0, 1, by omega, Nat.le_refl _, h1, by omega, by rw [hlast, hb]⟩⟩
    · have hn : newF m fs (rowF x) = decide (q = per) := by
        unfold newF
        rw [hl, hb, show (fs.length == 0) = false by rw [beq_eq_false_iff_ne]; omega, Bool.false_or]
        rw [Bool.eq_iff_iff, decide_eq_true_eq, decide_eq_true_eq]
        omega
      refine ⟨by rw [tot_put (.inl (by omega)), ih.all, hb]; omega, .inr ?_⟩
      by_cases e : q = per
      · rw [hn, if_pos (by simpa using e)] at hlen hlast
        refine ⟨L + 1, 1, by omega, Nat.le_refl _, h1, ?_, by rw [hlast, hb]⟩
        rw [hk, e, Nat.succ_mul]
      · rw [hn, if_neg (by simpa using e)] at hlen hlast
        refine ⟨L, q + 1, by omega, by omega, by omega, by omega, ?_⟩
        rw [hlast, hl, hb]
        omega
theorem SzF.count {per : Nat} {fs : List Fl} {k : Nat} (h : SzF per fs k) (h1 : 1 ≤ per) : fs.length = (k + per - 1) / per := by
  rcases h.some with ⟨rfl, e⟩ | ⟨L, q, e, q1, q2, hk, _⟩
  · rw [e, Nat.div_eq_of_lt (by omega)]
  · rw [e]
    symm
    refine Nat.div_eq_of_lt_le ?_ ?_
    · rw [Nat.succ_mul, hk]; omega
    · rw [Nat.succ_mul, Nat.succ_mul, hk]; omega
theorem lie_dbF {x : Int} {n : Nat} (h : n ≤ 64) : lieB (dbF x n) 4096 = true := lieB_is.2 fun k hk => by
  rw [dbF_len] at hk
  unfold okK leastK
  rw [dbF_get hk, Bool.and_eq_true, btw_is]
  refine ⟨⟨?_, ?_⟩, by simp [rowF]⟩
  · rcases k with _ | k
    · simp
    · rw [if_neg (by omega), Nat.add_sub_cancel, dbF_get (by omega)]
      simp
  · simp only; omega
/-- What Pack answers of such blocks. -/
theorem pack_sizes {x : Int} {n : Nat} (hn : n ≤ 64) (m v : Int) (hv : 3 ≤ v ∧ v ≤ 16) : packL 3 4096 (speM m) v (dbF x n) = (layF (speM m) (mostI v) (bsOf (dbF x n)) n, delsL 3 4096 (dbF x n) (ptrsL (speM m) (mostI v) (bsOf (dbF x n)) n) n ++ [cutD 3 4096], 0) := by
  obtain ⟨s1, s2, s3⟩ := speM_may m
  have hl := lay_le (speM m) (mostI v) (bsOf (dbF x n)) n
  unfold packL
  rw [if_pos ⟨maySv_is.2 hv, s1, by decide, by decide, lie_dbF hn⟩, dbF_len, if_neg (by omega)]
end Go.Proofs.YtcfmonlgpccndaaDoor
