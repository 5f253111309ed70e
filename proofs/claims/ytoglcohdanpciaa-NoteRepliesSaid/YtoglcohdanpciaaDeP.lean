/- delta: lists of deltas as bytes, plainly. -/
import Derived.Test.YtoglcohdanpciaaDeL
import Derived.Test.YtoglcohdanpciaaDeJ
namespace Go.Proofs.Ytoglcohdanpciaa
open Go.RowKit Go.Shelf
set_option maxRecDepth 100000
set_option linter.unusedSimpArgs false

theorem getP_bytes {st : PSt} (h : ∀ z ∈ st.1, 0 ≤ z ∧ z ≤ 255) : ∀ z ∈ (getP st).2.1, 0 ≤ z ∧ z ≤ 255 :=
  numE_bytes 1 (numE_bytes 2 (numE_bytes 4 (numE_bytes 3 (numE_bytes 1 h))))
theorem headE_bytes {st : PSt} (h : ∀ z ∈ st.1, 0 ≤ z ∧ z ≤ 255) : ∀ z ∈ (headE st).2.1, 0 ≤ z ∧ z ≤ 255 :=
  numE_bytes 2 (numE_bytes 1 (numE_bytes 2 (numE_bytes 1 h)))
theorem getD_bytes {st : PSt} (h : ∀ z ∈ st.1, 0 ≤ z ∧ z ≤ 255) : ∀ z ∈ (getD st).2.1, 0 ≤ z ∧ z ≤ 255 := by
  unfold getD
  split
  · exact getP_bytes (headE_bytes h)
  · split
    · exact getP_bytes (getP_bytes (headE_bytes h))
    · exact headE_bytes h
theorem headE_was {st : PSt} (h : (headE st).2.2 = 0) : st.2 = 0 := numE_was (numE_was (numE_was (numE_was h)))
theorem getD_was {st : PSt} (h : (getD st).2.2 = 0) : (headE st).2.2 = 0 := by
  unfold getD at h
  split at h
  · exact getP_was h
  · split at h
    · exact getP_was (getP_was h)
    · exact h
theorem headE_ok {zs : List Int} (hb : ∀ z ∈ zs, 0 ≤ z ∧ z ≤ 255) (hz : (headE (zs, 0)).2.2 = 0) : zs = headB12 (headE (zs, 0)).1 ++ (headE (zs, 0)).2.1 ∧ FitN (headE (zs, 0)).1.d 1 := by
  unfold headE at hz ⊢
  simp only at hz ⊢
  obtain ⟨x1, ⟨r1, b1⟩, e1⟩ : ∃ x s, numE 1 (zs, 0) = (x, s) := ⟨_, _, rfl⟩
  rw [e1] at hz ⊢; simp only at hz ⊢
  obtain ⟨x2, ⟨r2, b2⟩, e2⟩ : ∃ x s, numE 2 (r1, b1) = (x, s) := ⟨_, _, rfl⟩
  rw [e2] at hz ⊢; simp only at hz ⊢
  obtain ⟨x3, ⟨r3, b3⟩, e3⟩ : ∃ x s, numE 1 (r2, b2) = (x, s) := ⟨_, _, rfl⟩
  rw [e3] at hz ⊢; simp only at hz ⊢
  obtain ⟨x4, ⟨r4, b4⟩, e4⟩ : ∃ x s, numE 2 (r3, b3) = (x, s) := ⟨_, _, rfl⟩
  rw [e4] at hz ⊢; simp only at hz ⊢
  subst hz
  have z3 : b3 = 0 := numE_was (n := 2) (st := (r3, b3)) (by rw [e4])
  subst z3
  have z2 : b2 = 0 := numE_was (n := 1) (st := (r2, b2)) (by rw [e3])
  subst z2
  have z1 : b1 = 0 := numE_was (n := 2) (st := (r1, b1)) (by rw [e2])
  subst z1
  have q1 := numE_ok (n := 1) 1 rfl (by decide) (by decide) hb (by rw [e1])
  have y1 := numE_bytes 1 (st := (zs, 0)) hb
  rw [e1] at q1; rw [e1] at y1
  have q2 := numE_ok (n := 2) 2 rfl (by decide) (by decide) y1 (by rw [e2])
  have y2 := numE_bytes 2 (st := (r1, 0)) y1
  rw [e2] at q2; rw [e2] at y2
  have q3 := numE_ok (n := 1) 1 rfl (by decide) (by decide) y2 (by rw [e3])
  have y3 := numE_bytes 1 (st := (r2, 0)) y2
  rw [e3] at q3; rw [e3] at y3
  have q4 := numE_ok (n := 2) 2 rfl (by decide) (by decide) y3 (by rw [e4])
  rw [e4] at q4
  refine ⟨?_, q1.2⟩
  unfold headB12
  simp only [List.append_assoc] at *
  rw [← q4.1, ← q3.1, ← q2.1, ← q1.1]
/-- What was read, was written so. -/
theorem getD_ok {zs : List Int} (hb : ∀ z ∈ zs, 0 ≤ z ∧ z ≤ 255) (hz : (getD (zs, 0)).2.2 = 0) : zs = bytesD (getD (zs, 0)).1 ++ (getD (zs, 0)).2.1 ∧ FitN (getD (zs, 0)).1.d 1 := by
  have hh := getD_was hz
  obtain ⟨h1, h2⟩ := headE_ok hb hh
  have hb1 := headE_bytes (st := (zs, 0)) hb
  unfold getD bytesD at *
  obtain ⟨x, ⟨r, b⟩, e⟩ : ∃ x s, headE (zs, 0) = (x, s) := ⟨_, _, rfl⟩
  rw [e] at h1 h2 hb1 hz hh ⊢
  simp only at h1 h2 hb1 hz hh ⊢
  subst hh
  by_cases k1 : x.d = 1
  · simp only [if_pos k1] at hz ⊢
    refine ⟨?_, h2⟩
    have := getP_ok hb1 hz
    rw [List.append_assoc, ← this]
    exact h1
  · by_cases k3 : x.d = 3
    · simp only [if_neg k1, if_pos k3] at hz ⊢
      refine ⟨?_, h2⟩
      have z1 := getP_was hz
      have p1 := getP_ok hb1 z1
      have hb2 := getP_bytes (st := (r, 0)) hb1
      obtain ⟨y, ⟨r2, b2⟩, e2⟩ : ∃ x s, getP (r, 0) = (x, s) := ⟨_, _, rfl⟩
      rw [e2] at z1 p1 hb2 hz ⊢
      simp only at z1 p1 hb2 hz ⊢
      subst z1
      have p2 := getP_ok hb2 hz
      rw [List.append_assoc, List.append_assoc, ← p2, ← p1]
      exact h1
    · simp only [if_neg k1, if_neg k3, List.append_nil] at hz ⊢
      exact ⟨h1, h2⟩
def flatD (ds : List Dl) : List Int := ds.flatMap bytesD
theorem flatD_append (a b : List Dl) : flatD (a ++ b) = flatD a ++ flatD b := by simp [flatD]
theorem flatD_cons (a : Dl) (b : List Dl) : flatD (a :: b) = bytesD a ++ flatD b := by simp [flatD]
theorem flatD_len : ∀ ds : List Dl, ds.length * 6 ≤ (flatD ds).length ∧ (flatD ds).length ≤ ds.length * 28
  | [] => by simp [flatD]
  | d :: ds => by
    have h1 := bytesD_len d
    have h2 := flatD_len ds
    rw [flatD_cons, List.length_append, List.length_cons]
    omega
def allB (ds : List Dl) : List Int := be ds.length 2 ++ flatD ds
theorem allB_len (ds : List Dl) : (allB ds).length = 2 + (flatD ds).length := by simp [allB, be_length]
theorem badL_all {ds : List Dl} (h : badL ds = false) : ∀ x ∈ ds, mayL x = true := by
  intro x hx
  unfold badL at h
  rw [List.any_eq_false] at h
  have := h x hx
  simpa using this
theorem badL_of {ds : List Dl} (h : ∀ x ∈ ds, mayL x = true) : badL ds = false := by
  unfold badL
  rw [List.any_eq_false]
  intro x hx
  rw [h x hx]
  simp
theorem put_all : ∀ (ds : List Dl) (s : List Int), (∀ x ∈ ds, mayL x = true) → s.length + ds.length * 28 ≤ 65536 →
    ds.foldl (fun t x => putD x t) (s, 0) = (s ++ flatD ds, 0) ∧ ds.foldl (fun t x => rputD x t) (s, 0) = (s ++ flatD ds, 0)
  | [], s, _, _ => by simp [flatD]
  | d :: ds, s, hm, hl => by
    simp only [List.length_cons] at hl
    obtain ⟨e1, e2⟩ := putD_is (fitD_of (hm d (by simp))) (s := s) (by omega)
    have hb := bytesD_len d
    obtain ⟨i1, i2⟩ := put_all ds (s ++ bytesD d) (fun x hx => hm x (by simp [hx])) (by rw [List.length_append]; omega)
    rw [List.foldl_cons, List.foldl_cons, e1, e2, i1, i2, flatD_cons, List.append_assoc]
    exact ⟨rfl, rfl⟩
theorem len_fit {n : Nat} (h : n ≤ 4000) : FitN (n : Int) 2 := ⟨by decide, by decide, by omega, by show (n : Int) < 65536; omega⟩
theorem enc_is {ds : List Dl} (hm : ∀ x ∈ ds, mayL x = true) (hl : ds.length ≤ 2000) : encS ds = (allB ds, 0) ∧ rencS ds = (allB ds, 0) := by
  obtain ⟨e1, e2⟩ := penNum_fit (n := 2) 2 rfl (len_fit (n := ds.length) (by omega)) (s := []) (by simp)
  obtain ⟨p1, p2⟩ := put_all ds (be ds.length 2) hm (by rw [be_length]; omega)
  unfold encS rencS encK rencK allB
  rw [List.take_length, e1, e2, List.nil_append, p1, p2]
  exact ⟨rfl, rfl⟩
/-- What both Encodes answer. -/
theorem encL_is {ds : List Dl} (hl : ds.length ≤ 2000) : encL ds = (if badL ds = true then ([], 1) else (allB ds, 0)) ∧ rencL ds = encL ds := by
  unfold encL rencL
  by_cases hb : badL ds = true
  · rw [if_pos hb, if_pos hb, if_pos hb]; exact ⟨rfl, rfl⟩
  · have hm := badL_all (by simpa using hb)
    obtain ⟨e1, e2⟩ := enc_is hm hl
    simp only [if_neg hb, if_neg (show ¬ 4000 < ds.length by omega), e1, e2, if_true]
    exact ⟨trivial, trivial⟩
theorem dc_flat {ds : List Dl} (hm : ∀ x ∈ ds, mayL x = true) (r : List Int) : ∀ k, k ≤ ds.length → dcI (flatD ds ++ r, 0) k = (.ok (ds.take k), (flatD (ds.drop k) ++ r, 0))
  | 0, _ => by simp [dcI]
  | k + 1, h => by
    have ih := dc_flat hm r k (by omega)
    show dcS (dcI _ k) = _
    have hd : ds.drop k = ds[k] :: ds.drop (k + 1) := (List.drop_eq_getElem_cons (by omega))
    have hk := hm ds[k] (List.getElem_mem (by omega))
    have e := getD_be hk (flatD (ds.drop (k + 1)) ++ r)
    rw [ih, hd, flatD_cons, List.append_assoc]
    rw [dcS_good (by rw [e]) (by rw [e]; exact hk), e, List.take_succ_eq_append_getElem (by omega)]
/-- Decode of Encode. -/
theorem dec_enc {ds : List Dl} (hm : ∀ x ∈ ds, mayL x = true) (hl : ds.length ≤ 4000) : decL (allB ds) = (ds, 0) := by
  have e := numE_be (n := 2) 2 rfl (len_fit hl) (flatD ds)
  unfold decL
  rw [show allB ds = be ds.length 2 ++ flatD ds from rfl, e]
  simp only
  have f := dc_flat hm [] ds.length (Nat.le_refl _)
  rw [List.append_nil, List.take_length, List.drop_length] at f
  rw [if_neg (by omega), Int.toNat_natCast, f]
  rfl
theorem dc_back {zs : List Int} (hb : ∀ z ∈ zs, 0 ≤ z ∧ z ≤ 255) : ∀ (k : Nat) (l : List Dl) (st : PSt), dcI (zs, 0) k = (.ok l, st) → st.2 = 0 ∧ zs = flatD l ++ st.1 ∧ ∀ z ∈ st.1, 0 ≤ z ∧ z ≤ 255 := by
  intro k
  induction k with
  | zero =>
    intro l st h
    unfold dcI at h
    injection h with h1 h2
    injection h1 with h1
    subst h1 h2
    exact ⟨rfl, by simp [flatD], hb⟩
  | succ k ih =>
    intro l st h
    have h' : dcS (dcI (zs, 0) k) = (.ok l, st) := h
    obtain ⟨o, s, ho⟩ : ∃ o s, dcI (zs, 0) k = (o, s) := ⟨_, _, rfl⟩
    rw [ho] at h'
    cases o with
    | error y => unfold dcS at h'; simp only at h'; injection h' with h1 _; cases h1
    | ok l0 =>
      obtain ⟨i1, i2, i3⟩ := ih l0 s ho
      by_cases hz : (getD s).2.2 = 0
      · cases hm : mayL (getD s).1 with
        | false => rw [dcS_form hz hm] at h'; injection h' with h1 _; cases h1
        | true =>
          rw [dcS_good hz hm] at h'
          injection h' with h1 h2
          injection h1 with h1
          subst h1 h2
          obtain ⟨r, b⟩ := s
          simp only at i1
          subst i1
          refine ⟨hz, ?_, getD_bytes i3⟩
          rw [flatD_append, List.append_assoc, i2]
          congr 1
          have := (getD_ok i3 hz).1
          simpa [flatD] using this
      · rw [dcS_fail hz] at h'; injection h' with h1 _; cases h1
/-- Encode of Decode. -/
theorem enc_dec {zs : List Int} (hb : ∀ z ∈ zs, 0 ≤ z ∧ z ≤ 255) (h : (decL zs).2 = 0) : zs = allB (decL zs).1 ∧ ∀ x ∈ (decL zs).1, mayL x = true := by
  unfold decL at h ⊢
  obtain ⟨x1, ⟨r1, b1⟩, e1⟩ : ∃ x s, numE 2 (zs, 0) = (x, s) := ⟨_, _, rfl⟩
  have hlo := numE_lowB (st := (zs, 0)) hb 2
  have hb1 := numE_bytes 2 (st := (zs, 0)) hb
  rw [e1] at h hlo hb1 ⊢
  simp only at h hlo hb1 ⊢
  obtain ⟨c, rfl⟩ := Int.eq_ofNat_of_zero_le hlo
  rw [Int.toNat_natCast] at h ⊢
  by_cases hbig : (4000 : Int) < (c : Int)
  · rw [if_pos hbig] at h; cases h
  · rw [if_neg hbig] at h ⊢
    obtain ⟨o, s, ho⟩ : ∃ o s, dcI (r1, b1) c = (o, s) := ⟨_, _, rfl⟩
    rw [ho] at h ⊢
    cases o with
    | error y =>
      exfalso
      have hy : y = 0 := h
      subst hy
      clear h
      have : ∀ k, (dcI (r1, b1) k).1 ≠ .error 0 := by
        intro k
        induction k with
        | zero => intro e; cases e
        | succ k ih =>
          intro e
          have e' : (dcS (dcI (r1, b1) k)).1 = .error 0 := e
          obtain ⟨o, s, hq⟩ : ∃ o s, dcI (r1, b1) k = (o, s) := ⟨_, _, rfl⟩
          rw [hq] at e' ih
          cases o with
          | error y => unfold dcS at e'; simp only at e'; exact ih e'
          | ok l0 =>
            by_cases hz : (getD s).2.2 = 0
            · cases hm : mayL (getD s).1 with
              | false => rw [dcS_form hz hm] at e'; injection e' with e'; cases e'
              | true => rw [dcS_good hz hm] at e'; cases e'
            · rw [dcS_fail hz] at e'; injection e' with e'; exact hz e'
      exact this c (by rw [ho])
    | ok l =>
      unfold decE at h ⊢
      simp only at h ⊢
      by_cases hz : endOf s.1 s.2 = 0
      · rw [if_neg (by simp [hz])]
        simp only
        have hb0 : b1 = 0 := by
          by_cases h0 : b1 = 0
          · exact h0
          · exfalso
            have hc : c = 0 := by
              rcases Nat.lt_or_ge zs.length 2 with h2 | h2
              · have := numE_short (n := 2) 2 rfl (by decide) (by decide) h2
                rw [e1] at this
                injection this with e _
                omega
              · exfalso
                apply h0
                have : (numE 2 (zs, 0)).2.2 = 0 := by
                  unfold numE after rdNum
                  rw [if_neg (by simp), if_neg (by decide), if_neg (by show ¬ zs.length < 2; omega)]
                rw [e1] at this
                exact this
            subst hc
            unfold dcI at ho
            injection ho with _ h2
            subst h2
            unfold endOf at hz
            rw [if_neg h0] at hz
            exact h0 hz
        subst hb0
        obtain ⟨q1, q2, q3⟩ := dc_back hb1 c l s ho
        obtain ⟨l1, l2⟩ := dcI_len (st := (r1, 0)) (k := c) (l := l) (by rw [ho])
        refine ⟨?_, l2⟩
        have hs : s.1 = [] := by
          unfold endOf at hz
          rw [if_pos q1] at hz
          by_cases hl : s.1.length = 0
          · exact List.eq_nil_of_length_eq_zero hl
          · rw [if_neg hl] at hz; cases hz
        rw [hs, List.append_nil] at q2
        have q := (numE_ok (n := 2) 2 rfl (by decide) (by decide) hb (by rw [e1])).1
        rw [e1] at q
        simp only at q
        unfold allB
        rw [l1, ← q2]
        exact q
      · rw [if_pos hz] at h; exact absurd h hz
theorem bytesD_len_d {x y : Dl} (h : x.d = y.d) : (bytesD x).length = (bytesD y).length := by
  unfold bytesD
  simp only [List.length_append, headB_len, h]
  split
  · simp [bytesP_len]
  · split
    · simp [bytesP_len]
    · rfl
theorem numE_two {n : Nat} (m : Int) (hm : m = (n : Int)) (h1 : 1 ≤ n) (h7 : n ≤ 7) {st : PSt} (h : st.2 = 0 ∨ st.2 = 2) : (numE m st).2.2 = 0 ∨ (numE m st).2.2 = 2 := by
  rcases numE_bad m hm h1 h7 st with h0 | h0
  · exact Or.inl h0
  · rw [h0]
    split
    · exact Or.inr rfl
    · exact Or.inr (h.resolve_left (by assumption))
theorem getP_two {st : PSt} (h : st.2 = 0 ∨ st.2 = 2) : (getP st).2.2 = 0 ∨ (getP st).2.2 = 2 :=
  numE_two (n := 1) 1 rfl (by decide) (by decide) (numE_two (n := 2) 2 rfl (by decide) (by decide) (numE_two (n := 4) 4 rfl (by decide) (by decide) (numE_two (n := 3) 3 rfl (by decide) (by decide) (numE_two (n := 1) 1 rfl (by decide) (by decide) h))))
theorem headE_two {st : PSt} (h : st.2 = 0 ∨ st.2 = 2) : (headE st).2.2 = 0 ∨ (headE st).2.2 = 2 :=
  numE_two (n := 2) 2 rfl (by decide) (by decide) (numE_two (n := 1) 1 rfl (by decide) (by decide) (numE_two (n := 2) 2 rfl (by decide) (by decide) (numE_two (n := 1) 1 rfl (by decide) (by decide) h)))
theorem getD_two {st : PSt} (h : st.2 = 0 ∨ st.2 = 2) : (getD st).2.2 = 0 ∨ (getD st).2.2 = 2 := by
  unfold getD
  split
  · exact getP_two (headE_two h)
  · split
    · exact getP_two (getP_two (headE_two h))
    · exact headE_two h
theorem bytesD_byte (x : Dl) : ∀ z ∈ bytesD x, 0 ≤ z ∧ z ≤ 255 := by
  intro z hz
  unfold bytesD headB12 bytesP at hz
  simp only [List.mem_append] at hz
  rcases hz with hz | hz
  · rcases hz with ((hz | hz) | hz) | hz <;> exact be_byte _ _ z hz
  · split at hz
    · simp only [List.mem_append] at hz
      rcases hz with (((hz | hz) | hz) | hz) | hz <;> exact be_byte _ _ z hz
    · split at hz
      · simp only [List.mem_append] at hz
        rcases hz with ((((hz | hz) | hz) | hz) | hz) | ((((hz | hz) | hz) | hz) | hz) <;> exact be_byte _ _ z hz
      · cases hz
theorem flatD_byte (ds : List Dl) : ∀ z ∈ flatD ds, 0 ≤ z ∧ z ≤ 255 := by
  intro z hz
  unfold flatD at hz
  rw [List.mem_flatMap] at hz
  obtain ⟨d, _, h⟩ := hz
  exact bytesD_byte d z h
/-- A delta's bytes cut short are too short. -/
theorem getD_short {x : Dl} (h : mayL x = true) {j : Nat} (hj : j < (bytesD x).length) : (getD ((bytesD x).take j, 0)).2.2 = 2 := by
  rcases getD_two (st := ((bytesD x).take j, 0)) (Or.inl rfl) with hz | hz
  · exfalso
    have hb : ∀ z ∈ (bytesD x).take j, 0 ≤ z ∧ z ≤ 255 := fun z hz => bytesD_byte x z (List.mem_of_mem_take hz)
    obtain ⟨q1, q2⟩ := getD_ok hb hz
    obtain ⟨y, hy⟩ : ∃ y, y = (getD ((bytesD x).take j, 0)).1 := ⟨_, rfl⟩
    obtain ⟨r, hr⟩ : ∃ r, r = (getD ((bytesD x).take j, 0)).2.1 := ⟨_, rfl⟩
    rw [← hy, ← hr] at q1
    rw [← hy] at q2
    have hl := congrArg List.length q1
    rw [List.length_take, List.length_append] at hl
    have hy6 := (bytesD_len y).1
    have hd : x.d = y.d := by
      have h0 : ((bytesD x).take j)[0]? = (bytesD y ++ r)[0]? := by rw [q1]
      rw [List.getElem?_take, if_pos (by omega), List.getElem?_append_left (by omega)] at h0
      have fx := (fitD_of h).d
      have e : ∀ w : Dl, (bytesD w)[0]? = some (w.d % 256) := fun w => by
        unfold bytesD headB12
        rw [be_one]
        rfl
      rw [e x, e y] at h0
      injection h0 with h0
      obtain ⟨_, _, a1, a2⟩ := fx
      obtain ⟨_, _, b1, b2⟩ := q2
      have a2' : x.d < 256 := a2
      have b2' : y.d < 256 := b2
      omega
    have := bytesD_len_d hd
    omega
  · exact hz
theorem dc_cut {ds : List Dl} (hm : ∀ x ∈ ds, mayL x = true) {j : Nat} (hj : j < (flatD ds).length) : ∀ k, k ≤ ds.length →
    (dcI ((flatD ds).take j, 0) k = (.ok (ds.take k), ((flatD (ds.drop k)).take (j - (flatD (ds.take k)).length), 0)) ∧ (flatD (ds.take k)).length ≤ j) ∨ (dcI ((flatD ds).take j, 0) k).1 = .error 2
  | 0, _ => by left; simp [dcI, flatD]
  | k + 1, h => by
    rcases dc_cut hm hj k (by omega) with ⟨ih, il⟩ | ih
    · have hd : ds.drop k = ds[k] :: ds.drop (k + 1) := (List.drop_eq_getElem_cons (by omega))
      have hk := hm ds[k] (List.getElem_mem (by omega))
      have ht : ds.take (k + 1) = ds.take k ++ [ds[k]] := List.take_succ_eq_append_getElem (by omega)
      have hf : (flatD (ds.take (k + 1))).length = (flatD (ds.take k)).length + (bytesD ds[k]).length := by rw [ht, flatD_append, List.length_append]; simp [flatD]
      show _ ∨ (dcS (dcI _ k)).1 = _
      show (dcS (dcI _ k) = _ ∧ _) ∨ _
      rw [ih, hd, flatD_cons]
      rcases Nat.lt_or_ge (j - (flatD (ds.take k)).length) (bytesD ds[k]).length with hlt | hge
      · right
        rw [List.take_append_of_le_length (by omega)]
        have e := getD_short hk hlt
        rw [dcS_fail (by rw [e]; decide), e]
      · left
        refine ⟨?_, by omega⟩
        rw [List.take_append, List.take_of_length_le hge]
        have e := getD_be hk ((flatD (ds.drop (k + 1))).take (j - (flatD (ds.take k)).length - (bytesD ds[k]).length))
        rw [dcS_good (by rw [e]) (by rw [e]; exact hk), e, ht, flatD_append, List.length_append, Nat.sub_add_eq]
        simp [flatD]
    · right
      have := dcI_err ih 1
      rw [this]
      exact ih
/-- Each shorter beginning is too short. -/
theorem dec_cut {ds : List Dl} (hm : ∀ x ∈ ds, mayL x = true) (hl : ds.length ≤ 4000) {j : Nat} (hj : j < (allB ds).length) : (decL ((allB ds).take j)).2 = 2 := by
  rw [allB_len] at hj
  unfold decL
  rcases Nat.lt_or_ge j 2 with h2 | h2
  · have e := numE_short (n := 2) 2 rfl (by decide) (by decide) (zs := (allB ds).take j) (by rw [List.length_take]; omega)
    rw [e]
    simp only
    rw [if_neg (by decide)]
    rfl
  · have ht : (allB ds).take j = be ds.length 2 ++ (flatD ds).take (j - 2) := by
      unfold allB
      rw [List.take_append, be_length, List.take_of_length_le (by rw [be_length]; exact h2)]
    have e := numE_be (n := 2) 2 rfl (len_fit hl) ((flatD ds).take (j - 2))
    rw [ht, e]
    simp only
    rw [if_neg (by omega), Int.toNat_natCast]
    rcases dc_cut hm (j := j - 2) (by omega) ds.length (Nat.le_refl _) with ⟨_, h⟩ | h
    · rw [List.take_length] at h; omega
    · unfold decE
      rw [h]
/-- Unlike deltas have unlike bytes. -/
theorem bytesD_inj {x y : Dl} (hx : mayL x = true) (hy : mayL y = true) (h : bytesD x = bytesD y) : x = y := by
  have e1 := getD_be hx []
  have e2 := getD_be hy []
  rw [h, e2] at e1
  injection e1 with e _
  exact e.symm
end Go.Proofs.Ytoglcohdanpciaa
