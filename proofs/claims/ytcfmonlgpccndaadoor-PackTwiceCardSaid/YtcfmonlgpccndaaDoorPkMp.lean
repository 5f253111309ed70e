/- pack, plainly: what the deltas do to a map; where a block's bytes are. -/
import Derived.Test.YtcfmonlgpccndaaDoorPkF
import Derived.Test.YtcfmonlgpccndaaDoorPkI
namespace Go.Proofs.YtcfmonlgpccndaaDoor
open Go.RowKit
set_option linter.unusedSimpArgs false
set_option linter.unusedVariables false

theorem atB_set {L : List Pt} {j : Nat} (hj : j < L.length) (t : Pt) (b : Int) : atB (L.set j t) b = if b = (j : Int) then t else atB L b := by
  unfold atB
  by_cases h0 : 0 ≤ b
  · rw [if_pos h0, if_pos h0, List.getD_eq_getElem?_getD, List.getD_eq_getElem?_getD, List.getElem?_set]
    by_cases e : b = (j : Int)
    · rw [if_pos (by omega), if_pos hj, if_pos e]; rfl
    · rw [if_neg (by omega), if_neg e]
  · rw [if_neg h0, if_neg h0, if_neg (by omega)]
theorem atB_fit {L : List Pt} {n : Nat} (h : L.length ≤ n) (b : Int) : atB (fitL L n) b = atB L b := by
  unfold atB fitL
  by_cases h0 : 0 ≤ b
  · rw [if_pos h0, if_pos h0, List.take_of_length_le h, List.getD_eq_getElem?_getD, List.getD_eq_getElem?_getD, List.getElem?_append]
    by_cases h1 : b.toNat < L.length
    · rw [if_pos h1]
    · rw [if_neg h1, List.getElem?_replicate, List.getElem?_eq_none (by omega)]
      split <;> rfl
  · rw [if_neg h0, if_neg h0]
theorem cnt_mono {a b : Int} (h : a ≤ b) : cnt a ≤ cnt b := by unfold cnt; omega
/-- The pointer that was put last at b, of the first k. -/
def pickP (l : List Db) (ps : List Pt) (b : Int) (d : Pt) : Nat → Pt
  | 0 => d
  | k + 1 => if b = (l.getD k default).b then ps.getD k pZ else pickP l ps b d k
def runD (s : Bk) (ds : List Dl) : Bk := ds.foldl stepD s
theorem runD_append (s : Bk) (a b : List Dl) : runD s (a ++ b) = runD (runD s a) b := by simp [runD]
theorem runD_take {s : Bk} {ds : List Dl} {k : Nat} (h : k < ds.length) : runD s (ds.take (k + 1)) = stepD (runD s (ds.take k)) ds[k] := by
  rw [List.take_succ_eq_append_getElem h, runD_append]
  rfl
theorem good_runD {s : Bk} (h : GoodB s) : ∀ (ds : List Dl), GoodB (runD s ds)
  | [] => h
  | d :: ds => good_runD (h.steps d) ds
structure PutsD (size : Int) (l : List Db) (ps : List Pt) (s sk : Bk) (k : Nat) : Prop where
  sz : sk.sz = if k = 0 then s.sz else size
  ats : ∀ b, atB sk.L b = pickP l ps b (atB s.L b) k
theorem okK_b {l : List Db} {size : Int} (h : lieB l size = true) {k : Nat} (hk : k < l.length) : 0 ≤ (l.getD k default).b ∧ (l.getD k default).b * 64 + 1 ≤ size ∧ leastK l k ≤ (l.getD k default).b := by
  have h1 := least_ge h k (by omega)
  have := lieB_is.1 h k hk
  unfold okK at this
  rw [Bool.and_eq_true, btw_is] at this
  omega
theorem puts_run {ino size : Int} {l : List Db} {ps : List Pt} {s : Bk} (hg : GoodB s) (hs : s.sz ≤ size) (h4 : size ≤ 4096) (hl : lieB l size = true) (hp : ∀ k, k < l.length → mayP (ps.getD k pZ) = true) : ∀ k, k ≤ l.length → PutsD size l ps s (runD s (delsL ino size l ps k)) k
  | 0, _ => ⟨rfl, fun b => rfl⟩
  | k + 1, hk => by
    have ih := puts_run (ino := ino) hg hs h4 hl hp k (by omega)
    have gk := good_runD hg (delsL ino size l ps k)
    obtain ⟨b0, b1, _⟩ := okK_b hl (k := k) (by omega)
    have e1 : runD s (delsL ino size l ps (k + 1)) = stepD (runD s (delsL ino size l ps k)) (delK ino size l ps k) := by
      rw [dels_succ, runD_append]; rfl
    generalize runD s (delsL ino size l ps k) = sk at ih gk e1
    have hm : mayD sk (delK ino size l ps k) = true := by
      unfold mayD delK
      rw [if_pos rfl]
      simp only [Bool.and_eq_true, btw_is]
      exact ⟨⟨⟨b0, by omega⟩, b1, by omega⟩, hp k (by omega)⟩
    have hsz : max sk.sz size = size := by
      have := ih.sz
      split at this <;> omega
    have e2 : stepD sk (delK ino size l ps k) = ⟨size, (fitL sk.L (cnt size)).set (l.getD k default).b.toNat (ps.getD k pZ)⟩ := by
      unfold stepD
      rw [if_pos hm]
      unfold doD delK
      rw [if_pos rfl]
      simp only [hsz]
    refine ⟨by rw [e1, e2, if_neg (by omega)], fun b => ?_⟩
    rw [e1, e2]
    have hlen : (fitL sk.L (cnt size)).length = cnt size := fitL_len _ _
    have hcl : sk.L.length ≤ cnt size := by rw [gk.len]; exact cnt_mono (by omega)
    rw [atB_set (by rw [hlen]; unfold cnt; omega), Int.toNat_of_nonneg b0, atB_fit hcl, ih.ats]
    rfl
/-- All the deltas that Pack answers. -/
theorem runD_pack {ino size : Int} {l : List Db} {ps : List Pt} {s : Bk} (hg : GoodB s) (hs : s.sz ≤ size) (h0 : 0 ≤ size) (h4 : size ≤ 4096) (hl : lieB l size = true) (hp : ∀ k, k < l.length → mayP (ps.getD k pZ) = true) :
    (runD s (delsL ino size l ps l.length ++ [cutD ino size])).sz = size ∧ ∀ b, atB (runD s (delsL ino size l ps l.length ++ [cutD ino size])).L b = pickP l ps b (atB s.L b) l.length := by
  have P := puts_run (ino := ino) hg hs h4 hl hp l.length (Nat.le_refl _)
  have gk := good_runD hg (delsL ino size l ps l.length)
  rw [runD_append]
  generalize runD s (delsL ino size l ps l.length) = sk at P gk
  have hm : mayD sk (cutD ino size) = true := by
    unfold mayD cutD
    rw [if_neg (show ¬ ((2 : Int) = 1) by decide), if_pos rfl, btw_is]
    exact ⟨h0, h4⟩
  have e2 : runD sk [cutD ino size] = ⟨size, fitL sk.L (cnt size)⟩ := by
    show stepD sk _ = _
    unfold stepD
    rw [if_pos hm]
    rfl
  rw [e2]
  refine ⟨rfl, fun b => ?_⟩
  have hcl : sk.L.length ≤ cnt size := by
    rw [gk.len]
    refine cnt_mono ?_
    have := P.sz
    split at this <;> omega
  simp only
  rw [atB_fit hcl]
  exact P.ats b
/-- Each block's own pointer is the last that is put there. -/
theorem pick_own {l : List Db} {ps : List Pt} {size : Int} (hl : lieB l size = true) {d : Pt} {i : Nat} : ∀ k, i < k → k ≤ l.length → pickP l ps (l.getD i default).b d k = ps.getD i pZ
  | 0, h, _ => absurd h (Nat.not_lt_zero _)
  | k + 1, h, hk => by
    by_cases e : i = k
    · subst e
      unfold pickP
      rw [if_pos rfl]
    · have hlt : (l.getD i default).b < (l.getD k default).b := by
        have key : ∀ j, i < j → j ≤ l.length → (l.getD i default).b + 1 ≤ leastK l j := by
          intro j
          induction j with
          | zero => intro h; omega
          | succ j ih =>
            intro h1 h2
            rw [least_succ]
            by_cases e : i = j
            · subst e; omega
            · have := ih (by omega) (by omega)
              have := (okK_b hl (k := j) (by omega)).2.2
              omega
        have := key k (by omega) (by omega)
        have := (okK_b hl (k := k) (by omega)).2.2
        omega
      unfold pickP
      rw [if_neg (by omega)]
      exact pick_own hl k (by omega) (by omega)
theorem pick_map {l : List Db} {ps qs : List Pt} {b : Int} {d e : Pt} {R : Pt → Pt → Prop} (h0 : R d e) (h : ∀ k, R (ps.getD k pZ) (qs.getD k pZ)) : ∀ k, R (pickP l ps b d k) (pickP l qs b e k)
  | 0 => h0
  | k + 1 => by
    unfold pickP
    split
    · exact h k
    · exact pick_map h0 h k

/-- Stripes of which the others are beginnings. -/
def PreF (a b : List Fl) : Prop := a.length ≤ b.length ∧ ∀ i (h1 : i < a.length) (h2 : i < b.length), a[i].s = b[i].s ∧ ∃ t, b[i].d = a[i].d ++ t
theorem PreF.refl (a : List Fl) : PreF a a := ⟨Nat.le_refl _, fun i h1 h2 => ⟨rfl, [], by simp⟩⟩
theorem PreF.trans {a b c : List Fl} (h : PreF a b) (k : PreF b c) : PreF a c := ⟨Nat.le_trans h.1 k.1, fun i h1 h2 => by
  obtain ⟨e1, t1, e2⟩ := h.2 i h1 (Nat.lt_of_lt_of_le h1 h.1)
  obtain ⟨e3, t2, e4⟩ := k.2 i (Nat.lt_of_lt_of_le h1 h.1) h2
  exact ⟨e1.trans e3, t1 ++ t2, by rw [e4, e2, List.append_assoc]⟩⟩
theorem preF_put (f : Spe) (m : Int) (fs : List Fl) (b : List Int) : PreF fs (putF f m fs b) := by
  have hl := put_len f m fs b
  refine ⟨by rw [hl]; split <;> omega, fun i h1 h2 => ?_⟩
  by_cases hn : newF m fs b = true
  · have e : (putF f m fs b)[i] = fs[i] := by rw [put_at, if_pos hn, dif_pos h1]
    rw [e]
    exact ⟨rfl, [], by simp⟩
  · by_cases h' : i + 1 < fs.length
    · have e : (putF f m fs b)[i] = fs[i] := by rw [put_at, if_neg hn, dif_pos h']
      rw [e]
      exact ⟨rfl, [], by simp⟩
    · rw [if_neg hn] at hl
      have e3 : fs.length - 1 = i := by omega
      have e : (putF f m fs b)[i] = ⟨fs[i].s, fs[i].d ++ b⟩ := by
        rw [put_at, if_neg hn, dif_neg h', lastF_is (by omega)]
        simp only [e3]
      rw [e]
      exact ⟨rfl, b, rfl⟩
theorem preF_lay (f : Spe) (m : Int) (bs : List (List Int)) {j k : Nat} (h : j ≤ k) : PreF (layF f m bs j) (layF f m bs k) := by
  induction k with
  | zero => obtain rfl : j = 0 := by omega
            exact PreF.refl _
  | succ k ih =>
    by_cases e : j = k + 1
    · subst e; exact PreF.refl _
    · refine (ih (by omega)).trans ?_
      conv => arg 2; unfold layF
      split
      · exact PreF.refl _
      · exact preF_put _ _ _ _
/-- Where the k-th block's bytes are, once all are laid. -/
theorem ptr_in {f : Spe} {m : Int} {bs : List (List Int)} (hb : ∀ k, (bs.getD k []).length ≤ 64) (hm : 64 ≤ m) {k n : Nat} (hk : k < n) (h0 : (trimL (bs.getD k [])).length ≠ 0) :
    ∃ (j : Nat) (hj : j < (layF f m bs n).length) (a : Nat), ptrK f m bs k = ptrS (nextS f j) a (trimL (bs.getD k [])).length ∧ a + (trimL (bs.getD k [])).length ≤ (layF f m bs n)[j].d.length ∧ (((layF f m bs n)[j].d.drop a).take (trimL (bs.getD k [])).length) = trimL (bs.getD k []) := by
  have hpre := preF_lay f m bs (j := k + 1) (k := n) (by omega)
  have e : layF f m bs (k + 1) = putF f m (layF f m bs k) (trimL (bs.getD k [])) := by
    conv => lhs; unfold layF
    rw [if_neg h0]
  have ep : ptrK f m bs k = ptrF f m (layF f m bs k) (trimL (bs.getD k [])) := by unfold ptrK; rw [if_neg h0]
  have G := good_lay (f := f) hb hm k
  rw [e] at hpre
  rw [ep]
  generalize layF f m bs k = fs at *
  generalize layF f m bs n = gs at *
  generalize trimL (bs.getD k []) = b at *
  have hpl := put_len f m fs b
  by_cases hn : newF m fs b = true
  · rw [if_pos hn] at hpl
    have h1 : fs.length < (putF f m fs b).length := by omega
    have h2 : fs.length < gs.length := Nat.lt_of_lt_of_le h1 hpre.1
    obtain ⟨_, t, et⟩ := hpre.2 fs.length h1 h2
    rw [put_at, if_pos hn, dif_neg (by omega)] at et
    refine ⟨fs.length, h2, 0, ?_, ?_, ?_⟩
    · unfold ptrF openF
      rw [if_pos hn]
      have el : lastF (fs ++ [⟨nextS f fs.length, []⟩]) = ⟨nextS f fs.length, []⟩ := by
        rw [lastF_is (by simp)]
        simp
      rw [el]
      rfl
    · rw [et]; simp
    · rw [et]; simp
  · rw [if_neg hn] at hpl
    have hp : 0 < fs.length := by
      have := open_pos f m fs b
      rw [open_len, if_neg hn] at this
      exact this
    have h1 : fs.length - 1 < (putF f m fs b).length := by omega
    have h2 : fs.length - 1 < gs.length := Nat.lt_of_lt_of_le h1 hpre.1
    obtain ⟨_, t, et⟩ := hpre.2 (fs.length - 1) h1 h2
    rw [put_at, if_neg hn, dif_neg (by omega)] at et
    refine ⟨fs.length - 1, h2, (lastF fs).d.length, ?_, ?_, ?_⟩
    · unfold ptrF openF
      rw [if_neg hn, lastF_is hp, G.st _ (by omega)]
    · rw [et]; simp
    · rw [et]
      simp only [List.append_assoc]
      rw [List.drop_left, List.take_left]
theorem ptr_may {f : Spe} {v : Int} (hf : mayE f = true) (hv : 3 ≤ v ∧ v ≤ 16) {bs : List (List Int)} (hb : ∀ k, (bs.getD k []).length ≤ 64) {k c : Nat} (hk : k < c) (hn : f.n + (layF f (mostI v) bs c).length - 1 ≤ 1073741824) : mayP (ptrK f (mostI v) bs k) = true := by
  by_cases h0 : (trimL (bs.getD k [])).length = 0
  · unfold ptrK
    rw [if_pos h0]
    exact mayP_zero
  · obtain ⟨j, hj, a, e, hle, _⟩ := ptr_in (f := f) (m := mostI v) hb (by unfold mostI; omega) hk h0
    have hfew := (good_lay (f := f) (m := mostI v) hb (by unfold mostI; omega) c).few j hj
    have h64 := Nat.le_trans (trim_le _) (hb k)
    rw [e]
    unfold mayE msB at hf
    simp only [Bool.and_eq_true, btw_is] at hf
    have hm : mostI v ≤ 6000 := by unfold mostI; omega
    unfold mayP ptrS nextS
    simp only [Bool.or_eq_true, Bool.and_eq_true, btw_is]
    right
    refine ⟨⟨⟨⟨⟨?_, ?_⟩, ?_, ?_⟩, ?_, ?_⟩, ?_, ?_⟩, ?_, ?_⟩ <;> omega
end Go.Proofs.YtcfmonlgpccndaaDoor
